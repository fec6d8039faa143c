/- Put together by program (merge2.py): Rowset Scs Sca Scb Gold. -/
import Derived.Shelf.Strings.Builder1
import Derived.Shelf.Strings.OnBuilder
import Derived.Shelf.Strconv.Itoa3
import Derived.Shelf.LaysM
import Derived.Lib.AppendIntMem
import Derived.Shelf.Spec.BitsCarry
import Derived.Test.YtoejflnlkapkiaaDoorSy1
/- Rows of ints: as they are read, and written in place. -/
namespace Go.Proofs.YtoejflnlkapkiaaDoor
open Go.ChangeShapes Go.WideShapes Go.ChangeAt Go.RowKit
set_option linter.unusedVariables false
/-- What a slice of ints is: what it reads as, that each is in order, how many. -/
structure RowI (w : World) (a : Option Addr) (n : Nat) (xs : List Int) : Prop where
  len : xs.length = n
  reads : Reads .i64 w a xs
  wf : ∀ x ∈ xs, (Lit.int .i64 x).wf = true
  small : n ≤ 17592186044415
theorem readsI_below {k : IntKind} {w w' : World} {a : Option Addr} {xs : List Int} (h : Reads k w a xs) (hb : Below w.heap.size w w') : Reads k w' a xs := by
  rcases h with h | ⟨b, off, rfl, hlt, hc⟩
  · exact .inl h
  · exact .inr ⟨b, off, rfl, by have := hb.size; omega, fun i hi => by rw [hb.cell (p := ⟨b, off + i, none⟩) hlt]; exact hc i hi⟩
theorem RowI.below {w w' : World} {a : Option Addr} {n : Nat} {xs : List Int} (h : RowI w a n xs) (hb : Below w.heap.size w w') : RowI w' a n xs := ⟨h.len, readsI_below h.reads hb, h.wf, h.small⟩
theorem RowI.alloc {w : World} {a : Option Addr} {n : Nat} {xs : List Int} (h : RowI w a n xs) (o : Obj) : RowI (w.alloc o) a n xs := h.below ((Below.refl _ _).alloc (Nat.le_refl _) o)
theorem RowI.bd {w : World} {a : Option Addr} {n : Nat} {xs : List Int} (h : RowI w a n xs) {k : Nat} (hk : k < n) : -9223372036854775808 ≤ xs.getD k 0 ∧ xs.getD k 0 ≤ 9223372036854775807 := by
  have hl := h.len
  have e : xs.getD k 0 = xs[k]'(by omega) := by simp [List.getD, show k < xs.length by omega]
  rw [e]; exact bounds_i64 (h.wf _ (List.getElem_mem _))
theorem RowI.cell {w : World} {a : Option Addr} {n : Nat} {xs : List Int} (h : RowI w a n xs) {k : Nat} (hk : k < n) : ∃ b off, a = some ⟨b, off, none⟩ ∧ b < w.heap.size ∧ w.cell? ⟨b, off + k, none⟩ = some (.int .i64 (xs.getD k 0)) ∧ -9223372036854775808 ≤ xs.getD k 0 ∧ xs.getD k 0 ≤ 9223372036854775807 := by
  rcases h.reads with hn | ⟨b, off, e, hb, hc⟩
  · have := h.len; rw [hn] at this; simp at this; omega
  · exact ⟨b, off, e, hb, hc k (by rw [h.len]; exact hk), h.bd hk⟩
theorem RowI.of_isRow {w : World} {a : Option Addr} {n c : Nat} (h : IsRow .i64 w a n c) (hs : n ≤ 17592186044415) : ∃ xs, RowI w a n xs := by
  obtain ⟨xs, hn, _, _, hr, hw⟩ := h
  exact ⟨xs, hn, hr, hw, hs⟩
theorem RowI.of_at {w : World} {B : Nat} {ys : List Int} {T : TypeId} (h : RowAtI w B T ys) (hw : ∀ x ∈ ys, (Lit.int .i64 x).wf = true) {n : Nat} (hn : ys.length = n) (hs : n ≤ 17592186044415) : RowI w (some ⟨B, 0, none⟩) n ys := ⟨hn, h.reads, hw, hs⟩
/-- The answer is a slice of n ints that reads as ys; nothing that was there has turned. -/
def GivesI (w : World) (n : Nat) (ys : List Int) (e : Ending) (w' : World) : Prop := ∃ a c, e = .returned (.slice a n c) ∧ RowI w' a n ys ∧ Below w.heap.size w w'
def GivesIOk (w : World) (n : Nat) (ys : List Int) (e : Ending) (w' : World) : Prop := ∃ a c, e = .returned (.tuple #[.slice a n c, .int .i64 0]) ∧ RowI w' a n ys ∧ Below w.heap.size w w'
theorem givesI_own {w w' : World} {n B : Nat} {T : TypeId} {ys : List Int} {e : Ending} {v : Value} (he : e = .returned v) (h : Owns w' B T .i64 v ys) (hb : Below w.heap.size w w') (hw : ∀ x ∈ ys, (Lit.int .i64 x).wf = true) (hn : ys.length = n) (hs : n ≤ 17592186044415) : GivesI w n ys e w' := by
  obtain ⟨a, c, hv, hr, _, _⟩ := h.shape
  exact ⟨a, c, by rw [he, hv, hn], ⟨hn, hr, hw, hs⟩, hb⟩

/-- One place written. -/
theorem RowAtI.set {w : World} {B : Nat} {T : TypeId} {ys : List Int} (h : RowAtI w B T ys) (k : Nat) (y : Int) : RowAtI (w.setCell ⟨B, k, none⟩ (.int .i64 y)) B T (ys.set k y) := by
  unfold RowAtI
  rw [heap_setCell_same w B k _ T _ h]
  congr 2
  rw [List.setIfInBounds_toArray]
  congr 1
  rw [List.map_set]
theorem RowAtI.other {w : World} {B : Nat} {T : TypeId} {ys : List Int} (h : RowAtI w B T ys) {p : Addr} (hp : p.block ≠ B) (v : Value) : RowAtI (w.setCell p v) B T ys := by
  unfold RowAtI at *
  rw [← h]
  exact heap_setCell_other w p B v (fun e => hp e.symm)
theorem RowAtI.cell {w : World} {B : Nat} {T : TypeId} {ys : List Int} (h : RowAtI w B T ys) {k : Nat} (hk : k < ys.length) : w.cell? ⟨B, k, none⟩ = some (.int .i64 (ys.getD k 0)) := by
  rw [cell_of_row w B k _ _ _ h]
  simp [List.getD, hk]
theorem RowAtI.free {w : World} {B : Nat} {T : TypeId} {ys : List Int} (h : RowAtI w B T ys) (j : Nat) : w.frozen? ⟨B, j, none⟩ = false := frozen_of_row w B j _ _ h
theorem RowAtI.made (w : World) (T : TypeId) (n : Nat) : RowAtI (w.alloc (.cells (Array.replicate n (.int .i64 0)) T)) w.heap.size T (List.replicate n 0) := by
  unfold RowAtI; rw [heap_alloc_new]; simp
theorem RowAtI.drewN {w : World} {B : Nat} {T : TypeId} {ys : List Int} (h : RowAtI w B T ys) (q : Nat) : RowAtI (w.drewN q) B T ys := h
theorem RowAtI.drew {w : World} {B : Nat} {T : TypeId} {ys : List Int} (h : RowAtI w B T ys) : RowAtI w.drew B T ys := h
/-- A function's values, one by one. -/
def tab (n : Nat) (f : Nat → Int) : List Int := (List.range n).map f
theorem tab_len (n : Nat) (f : Nat → Int) : (tab n f).length = n := by unfold tab; simp
theorem tab_at (n : Nat) (f : Nat → Int) (k : Nat) (h : k < n) : (tab n f).getD k 0 = f k := by unfold tab; simp [List.getD, h]
theorem tab_set (n : Nat) (f g : Nat → Int) (k : Nat) (y : Int) (h : ∀ j, j < n → g j = if j = k then y else f j) : (tab n f).set k y = tab n g := by
  unfold tab
  apply List.ext_getElem
  · simp
  · intro i h1 h2
    have hi : i < n := by simpa using h2
    rw [List.getElem_set]
    simp only [List.getElem_map, List.getElem_range, h i hi]
    by_cases e : k = i
    · subst e; simp
    · rw [if_neg e, if_neg (fun x => e x.symm)]
theorem tab_congr (n : Nat) (f g : Nat → Int) (h : ∀ j, j < n → g j = f j) : tab n f = tab n g := by
  unfold tab
  apply List.map_congr_left
  intro i hi
  exact (h i (by simpa using hi)).symm
theorem tab_rep (n : Nat) (v : Int) : List.replicate n v = tab n (fun _ => v) := by
  unfold tab
  apply List.ext_getElem
  · simp
  · intro i h1 h2; simp
end Go.Proofs.YtoejflnlkapkiaaDoor
/- The library's contracts at this program (this seat alone: its numbers; written by gensheld.py). -/
namespace Go.Proofs.YtoejflnlkapkiaaDoor
open Go.Shelf Go.ChangeShapes Go.WideShapes Go.ChangeAt Go.RowKit
def lays170_ren : Go.Shelf.Ren := ⟨fun | 170 => 23 | n => n, fun | 70 => 57 | 3 => 3 | 0 => 0 | 72 => 59 | 37 => 53 | 5 => 5 | n => n, fun | n => n⟩
theorem lays170 : Go.Proofs.Lays.n170 Tryd.prog lays170_ren := {
  mixed := by kernel_rfl
  f170 := Tryd.func23.trans (congrArg some (by kernel_rfl))
  t0 := Tryd.underlying0
  a0 := Tryd.isAgg0
  z0 := Tryd.sizeOf0
  v0 := Tryd.zeroValue0
  t3 := Tryd.underlying3
  a3 := Tryd.isAgg3
  z3 := Tryd.sizeOf3
  v3 := Tryd.zeroValue3
  t37 := Tryd.underlying53
  a37 := Tryd.isAgg53
  z37 := Tryd.sizeOf53
  v37 := Tryd.zeroValue53
  t70 := Tryd.underlying57
  a70 := Tryd.isAgg57
  z70 := Tryd.sizeOf57
  v70 := Tryd.zeroValue57
  t72 := Tryd.underlying59
  a72 := Tryd.isAgg59
  z72 := Tryd.sizeOf59
  v72 := Tryd.zeroValue59 }
open Go.RowKit in
theorem c_b_Len (B b : Nat) (bs : List Value) (w : World) (h : Lib.IsBuilder 59 5 B b bs w) :
    Calls Tryd.prog 23 #[.pointer (some ⟨b, 0, none⟩)] w fun e w' => e = .returned (.int .i64 bs.length) ∧ w' = w := Any.Builder_Len lays170 B b bs w h
def lays169_ren : Go.Shelf.Ren := ⟨fun | 169 => 24 | n => n, fun | 70 => 57 | 9 => 9 | 0 => 0 | 72 => 59 | 37 => 53 | 127 => 88 | 3 => 3 | 5 => 5 | n => n, fun | n => n⟩
theorem lays169 : Go.Proofs.Lays.n169 Tryd.prog lays169_ren := {
  mixed := by kernel_rfl
  f169 := Tryd.func24.trans (congrArg some (by kernel_rfl))
  t0 := Tryd.underlying0
  a0 := Tryd.isAgg0
  z0 := Tryd.sizeOf0
  v0 := Tryd.zeroValue0
  t3 := Tryd.underlying3
  a3 := Tryd.isAgg3
  z3 := Tryd.sizeOf3
  v3 := Tryd.zeroValue3
  t9 := Tryd.underlying9
  a9 := Tryd.isAgg9
  z9 := Tryd.sizeOf9
  v9 := Tryd.zeroValue9
  t37 := Tryd.underlying53
  a37 := Tryd.isAgg53
  z37 := Tryd.sizeOf53
  v37 := Tryd.zeroValue53
  t70 := Tryd.underlying57
  a70 := Tryd.isAgg57
  z70 := Tryd.sizeOf57
  v70 := Tryd.zeroValue57
  t72 := Tryd.underlying59
  a72 := Tryd.isAgg59
  z72 := Tryd.sizeOf59
  v72 := Tryd.zeroValue59
  t127 := Tryd.underlying88
  a127 := Tryd.isAgg88
  z127 := Tryd.sizeOf88
  v127 := Tryd.zeroValue88 }
theorem Builder_Extra_169 : Builder.Extra Tryd.prog lays169_ren := {
  sizeBuilder := by kernel_rfl
  liesBuilder := by kernel_rfl
  t5 := Tryd.underlying5
  a5 := Tryd.isAgg5
  z5 := Tryd.sizeOf5
  v5 := Tryd.zeroValue5
  infoByte := by kernel_rfl
  cellsByte := by kernel_rfl
  sizeByte := by kernel_rfl
  neB5 := by decide }
open Go.RowKit in
theorem c_b_String (B b : Nat) (l : List UInt8) (w : World) (h : Lib.IsBuilder 59 5 B b (Lib.byteCells l) w) (hBw : B ≤ w.heap.size) :
    Calls Tryd.prog 24 #[.pointer (some ⟨b, 0, none⟩)] w fun e w' => e = .returned (.string ⟨l.toArray⟩) ∧ Below B w w' := Any.Builder_String_any lays169 Builder_Extra_169 B b l w h hBw
def lays156_ren : Go.Shelf.Ren := ⟨fun | 156 => 36 | 165 => 52 | 166 => 35 | 169 => 24 | 240 => 51 | 241 => 65 | 276 => 64 | 277 => 78 | n => n, fun | 31 => 31 | 9 => 9 | 3 => 3 | 4 => 4 | 0 => 0 | 20 => 20 | 72 => 59 | 76 => 82 | 70 => 57 | 37 => 53 | 75 => 81 | 127 => 88 | 164 => 110 | 5 => 5 | 80 => 64 | n => n, fun | n => n⟩
theorem lays156 : Go.Proofs.Lays.n156 Tryd.prog lays156_ren := {
  mixed := by kernel_rfl
  f156 := Tryd.func36.trans (congrArg some (by kernel_rfl))
  f165 := Tryd.func52.trans (congrArg some (by kernel_rfl))
  f166 := Tryd.func35.trans (congrArg some (by kernel_rfl))
  f169 := Tryd.func24.trans (congrArg some (by kernel_rfl))
  f240 := Tryd.func51.trans (congrArg some (by kernel_rfl))
  f241 := Tryd.func65.trans (congrArg some (by kernel_rfl))
  f276 := Tryd.func64.trans (congrArg some (by kernel_rfl))
  f277 := Tryd.func78.trans (congrArg some (by kernel_rfl))
  t0 := Tryd.underlying0
  a0 := Tryd.isAgg0
  z0 := Tryd.sizeOf0
  v0 := Tryd.zeroValue0
  t3 := Tryd.underlying3
  a3 := Tryd.isAgg3
  z3 := Tryd.sizeOf3
  v3 := Tryd.zeroValue3
  t4 := Tryd.underlying4
  a4 := Tryd.isAgg4
  z4 := Tryd.sizeOf4
  v4 := Tryd.zeroValue4
  t9 := Tryd.underlying9
  a9 := Tryd.isAgg9
  z9 := Tryd.sizeOf9
  v9 := Tryd.zeroValue9
  t20 := Tryd.underlying20
  a20 := Tryd.isAgg20
  z20 := Tryd.sizeOf20
  v20 := Tryd.zeroValue20
  t31 := Tryd.underlying31
  a31 := Tryd.isAgg31
  z31 := Tryd.sizeOf31
  v31 := Tryd.zeroValue31
  t37 := Tryd.underlying53
  a37 := Tryd.isAgg53
  z37 := Tryd.sizeOf53
  v37 := Tryd.zeroValue53
  t70 := Tryd.underlying57
  a70 := Tryd.isAgg57
  z70 := Tryd.sizeOf57
  v70 := Tryd.zeroValue57
  t72 := Tryd.underlying59
  a72 := Tryd.isAgg59
  z72 := Tryd.sizeOf59
  v72 := Tryd.zeroValue59
  t75 := Tryd.underlying81
  a75 := Tryd.isAgg81
  z75 := Tryd.sizeOf81
  v75 := Tryd.zeroValue81
  t76 := Tryd.underlying82
  a76 := Tryd.isAgg82
  z76 := Tryd.sizeOf82
  v76 := Tryd.zeroValue82
  t127 := Tryd.underlying88
  a127 := Tryd.isAgg88
  z127 := Tryd.sizeOf88
  v127 := Tryd.zeroValue88
  t164 := Tryd.underlying110
  a164 := Tryd.isAgg110
  z164 := Tryd.sizeOf110
  v164 := Tryd.zeroValue110 }
theorem Builder_Extra_156 : Builder.Extra Tryd.prog lays156_ren := {
  sizeBuilder := by kernel_rfl
  liesBuilder := by kernel_rfl
  t5 := Tryd.underlying5
  a5 := Tryd.isAgg5
  z5 := Tryd.sizeOf5
  v5 := Tryd.zeroValue5
  infoByte := by kernel_rfl
  cellsByte := by kernel_rfl
  sizeByte := by kernel_rfl
  neB5 := by decide }
open Go.RowKit in
theorem c_strings_Join (bk o c : Nat) (xs : List ByteArray) (sep : ByteArray) (w : World) (hcells : ∀ (j : Nat) x, xs[j]? = some x → w.cell? ⟨bk, o + j, none⟩ = some (.string x)) (hbk : bk < w.heap.size) (hN : xs.length ≤ 140737488355328) (hcap : xs.length ≤ c) (hlen : (Lib.join (xs.map (·.data.toList)) sep.data.toList).length ≤ 140737488355328) :
    Calls Tryd.prog 36 #[.slice (some ⟨bk, o, none⟩) xs.length c, .string sep] w fun e w' => e = .returned (.string ⟨(Lib.join (xs.map (·.data.toList)) sep.data.toList).toArray⟩) ∧ Below w.heap.size w w' := Any.strings_Join lays156 Builder_Extra_156 bk o c xs sep w hcells hbk hN hcap hlen
def laysM171_ren : Go.Shelf.Ren := ⟨fun | 171 => 38 | 243 => 53 | 246 => 66 | 283 => 67 | 284 => 68 | 285 => 69 | 286 => 70 | 129 => 80 | 317 => 79 | 318 => 81 | 319 => 82 | 320 => 83 | 337 => 95 | 338 => 96 | n => n, fun | 3 => 3 | 9 => 9 | 2 => 2 | 4 => 4 | 171 => 113 | 0 => 0 | 53 => 78 | 37 => 53 | 5 => 5 | 173 => 116 | 212 => 127 | 51 => 128 | 20 => 20 | 213 => 129 | 46 => 98 | 232 => 148 | 233 => 149 | n => n, fun | 17 => 0 | 18 => 4 | 19 => 5 | n => n⟩
theorem laysM171 : Go.Proofs.LaysM.n171 Tryd.prog laysM171_ren := {
  mixed := by kernel_rfl
  f129 := Tryd.func80.trans (congrArg some (by kernel_rfl))
  f171 := Tryd.func38.trans (congrArg some (by kernel_rfl))
  f243 := Tryd.func53.trans (congrArg some (by kernel_rfl))
  f246 := Tryd.func66.trans (congrArg some (by kernel_rfl))
  f283 := Tryd.func67.trans (congrArg some (by kernel_rfl))
  f284 := Tryd.func68.trans (congrArg some (by kernel_rfl))
  f285 := Tryd.func69.trans (congrArg some (by kernel_rfl))
  f286 := Tryd.func70.trans (congrArg some (by kernel_rfl))
  f317 := Tryd.func79.trans (congrArg some (by kernel_rfl))
  f318 := Tryd.func81.trans (congrArg some (by kernel_rfl))
  f319 := Tryd.func82.trans (congrArg some (by kernel_rfl))
  f320 := Tryd.func83.trans (congrArg some (by kernel_rfl))
  f337 := Tryd.func95.trans (congrArg some (by kernel_rfl))
  f338 := Tryd.func96.trans (congrArg some (by kernel_rfl))
  t0 := Tryd.underlying0
  a0 := Tryd.isAgg0
  z0 := Tryd.sizeOf0
  v0 := Tryd.zeroValue0
  t2 := Tryd.underlying2
  a2 := Tryd.isAgg2
  z2 := Tryd.sizeOf2
  v2 := Tryd.zeroValue2
  t3 := Tryd.underlying3
  a3 := Tryd.isAgg3
  z3 := Tryd.sizeOf3
  v3 := Tryd.zeroValue3
  t4 := Tryd.underlying4
  a4 := Tryd.isAgg4
  z4 := Tryd.sizeOf4
  v4 := Tryd.zeroValue4
  t5 := Tryd.underlying5
  a5 := Tryd.isAgg5
  z5 := Tryd.sizeOf5
  v5 := Tryd.zeroValue5
  t9 := Tryd.underlying9
  a9 := Tryd.isAgg9
  z9 := Tryd.sizeOf9
  v9 := Tryd.zeroValue9
  t20 := Tryd.underlying20
  a20 := Tryd.isAgg20
  z20 := Tryd.sizeOf20
  v20 := Tryd.zeroValue20
  t37 := Tryd.underlying53
  a37 := Tryd.isAgg53
  z37 := Tryd.sizeOf53
  v37 := Tryd.zeroValue53
  t46 := Tryd.underlying98
  a46 := Tryd.isAgg98
  z46 := Tryd.sizeOf98
  v46 := Tryd.zeroValue98
  t51 := Tryd.underlying128
  a51 := Tryd.isAgg128
  z51 := Tryd.sizeOf128
  v51 := Tryd.zeroValue128
  t53 := Tryd.underlying78
  a53 := Tryd.isAgg78
  z53 := Tryd.sizeOf78
  v53 := Tryd.zeroValue78
  t171 := Tryd.underlying113
  a171 := Tryd.isAgg113
  z171 := Tryd.sizeOf113
  v171 := Tryd.zeroValue113
  t173 := Tryd.underlying116
  a173 := Tryd.isAgg116
  z173 := Tryd.sizeOf116
  v173 := Tryd.zeroValue116
  t212 := Tryd.underlying127
  a212 := Tryd.isAgg127
  z212 := Tryd.sizeOf127
  v212 := Tryd.zeroValue127
  t213 := Tryd.underlying129
  a213 := Tryd.isAgg129
  z213 := Tryd.sizeOf129
  t232 := Tryd.underlying148
  a232 := Tryd.isAgg148
  z232 := Tryd.sizeOf148
  v232 := Tryd.zeroValue148
  t233 := Tryd.underlying149
  a233 := Tryd.isAgg149
  z233 := Tryd.sizeOf149
  v233 := Tryd.zeroValue149
  g17 := by kernel_rfl
  g18 := by kernel_rfl
  g19 := by kernel_rfl
  i0 := by kernel_rfl
  i2 := by kernel_rfl
  i3 := by kernel_rfl
  i4 := by kernel_rfl
  i5 := by kernel_rfl
  i9 := by kernel_rfl
  i20 := by kernel_rfl
  i37 := by kernel_rfl
  i46 := by kernel_rfl
  i51 := by kernel_rfl
  i53 := by kernel_rfl
  i171 := by kernel_rfl
  i173 := by kernel_rfl
  i212 := by kernel_rfl
  i232 := by kernel_rfl
  i233 := by kernel_rfl
  m17 := by kernel_rfl
  m18 := by kernel_rfl
  m19 := by kernel_rfl }
open Go.RowKit Go.Sort Go.Lib in
theorem c_strconv_Itoa (n : Int) (h0 : -9223372036854775808 ≤ n) (h1 : n ≤ 9223372036854775807) (w : World) (htab : Lib.TabIs Tryd.prog w "internal/strconv.uint64pow10" .u64 Lib.pow10Tab) :
    Calls Tryd.prog 38 #[.int .i64 n] w fun e w' => e = .returned (.string ⟨(Lib.itoa n).toArray⟩) ∧ ∃ k os, w' = grow (w.drewN k) os := Any.strconv_Itoa laysM171 n h0 h1 w htab
def laysW_ren : Go.Shelf.Ren := ⟨fun | 167 => 37 | n => lays156_ren.f n, lays156_ren.t, lays156_ren.g⟩
theorem lays166 : Go.Proofs.Lays.n166 Tryd.prog lays156_ren := {
  mixed := lays156.mixed
  f166 := lays156.f166
  f240 := lays156.f240
  f276 := lays156.f276
  t0 := lays156.t0
  a0 := lays156.a0
  z0 := lays156.z0
  v0 := lays156.v0
  t3 := lays156.t3
  a3 := lays156.a3
  z3 := lays156.z3
  v3 := lays156.v3
  t4 := lays156.t4
  a4 := lays156.a4
  z4 := lays156.z4
  v4 := lays156.v4
  t9 := lays156.t9
  a9 := lays156.a9
  z9 := lays156.z9
  v9 := lays156.v9
  t20 := lays156.t20
  a20 := lays156.a20
  z20 := lays156.z20
  v20 := lays156.v20
  t37 := lays156.t37
  a37 := lays156.a37
  z37 := lays156.z37
  v37 := lays156.v37
  t70 := lays156.t70
  a70 := lays156.a70
  z70 := lays156.z70
  v70 := lays156.v70
  t72 := lays156.t72
  a72 := lays156.a72
  z72 := lays156.z72
  v72 := lays156.v72
  t75 := lays156.t75
  a75 := lays156.a75
  z75 := lays156.z75
  v75 := lays156.v75
  t164 := lays156.t164
  a164 := lays156.a164
  z164 := lays156.z164
  v164 := lays156.v164 }
theorem lays240 : Go.Proofs.Lays.n240 Tryd.prog lays156_ren := {
  mixed := lays156.mixed
  f240 := lays156.f240
  f276 := lays156.f276
  t0 := lays156.t0
  a0 := lays156.a0
  z0 := lays156.z0
  v0 := lays156.v0
  t4 := lays156.t4
  a4 := lays156.a4
  z4 := lays156.z4
  v4 := lays156.v4
  t9 := lays156.t9
  a9 := lays156.a9
  z9 := lays156.z9
  v9 := lays156.v9
  t20 := lays156.t20
  a20 := lays156.a20
  z20 := lays156.z20
  v20 := lays156.v20
  t70 := lays156.t70
  a70 := lays156.a70
  z70 := lays156.z70
  v70 := lays156.v70
  t72 := lays156.t72
  a72 := lays156.a72
  z72 := lays156.z72
  v72 := lays156.v72
  t164 := lays156.t164
  a164 := lays156.a164
  z164 := lays156.z164
  v164 := lays156.v164 }
theorem lays167 : Go.Proofs.Lays.n167 Tryd.prog laysW_ren := {
  mixed := lays156.mixed
  f167 := Tryd.func37.trans (congrArg some (by kernel_rfl))
  f240 := lays156.f240
  f276 := lays156.f276
  t0 := lays156.t0
  a0 := lays156.a0
  z0 := lays156.z0
  v0 := lays156.v0
  t4 := lays156.t4
  a4 := lays156.a4
  z4 := lays156.z4
  v4 := lays156.v4
  t5 := Builder_Extra_156.t5
  a5 := Builder_Extra_156.a5
  z5 := Builder_Extra_156.z5
  v5 := Builder_Extra_156.v5
  t9 := lays156.t9
  a9 := lays156.a9
  z9 := lays156.z9
  v9 := lays156.v9
  t20 := lays156.t20
  a20 := lays156.a20
  z20 := lays156.z20
  v20 := lays156.v20
  t37 := lays156.t37
  a37 := lays156.a37
  z37 := lays156.z37
  v37 := lays156.v37
  t70 := lays156.t70
  a70 := lays156.a70
  z70 := lays156.z70
  v70 := lays156.v70
  t72 := lays156.t72
  a72 := lays156.a72
  z72 := lays156.z72
  v72 := lays156.v72
  t75 := lays156.t75
  a75 := lays156.a75
  z75 := lays156.z75
  v75 := lays156.v75
  t164 := lays156.t164
  a164 := lays156.a164
  z164 := lays156.z164
  v164 := lays156.v164 }
set_option maxRecDepth 100000 in
theorem Builder_Extra_W : Builder.Extra Tryd.prog laysW_ren := {
  sizeBuilder := Builder_Extra_156.sizeBuilder
  liesBuilder := Builder_Extra_156.liesBuilder
  t5 := Builder_Extra_156.t5
  a5 := Builder_Extra_156.a5
  z5 := Builder_Extra_156.z5
  v5 := Builder_Extra_156.v5
  infoByte := Builder_Extra_156.infoByte
  cellsByte := Builder_Extra_156.cellsByte
  sizeByte := Builder_Extra_156.sizeByte
  neB5 := Builder_Extra_156.neB5 }
open Go.RowKit Go.Sort Go.Lib in
theorem c_b_Write (B b : Nat) (bs : List Value) (s : ByteArray) (w : World) (h : Lib.IsBuilder 59 5 B b bs w) (hlen : bs.length + s.size ≤ 140737488355328) (hBw : B ≤ w.heap.size) :
    Calls Tryd.prog 35 #[.pointer (some ⟨b, 0, none⟩), .string s] w fun e w' => e = .returned (.tuple #[.int .i64 s.size, .nilIface]) ∧ (Lib.BuilderAt 59 5 B b (.pointer (some ⟨b, 0, none⟩)) (bs ++ Lib.strCells s) w' ∧ Below B w w') := Any.Builder_WriteString lays166 Builder_Extra_156 B b bs s w h hlen hBw
open Go.RowKit Go.Sort Go.Lib in
theorem c_b_Byte (B b : Nat) (bs : List Value) (c : Int) (w : World) (h : Lib.IsBuilder 59 5 B b bs w) (hlen : bs.length + 1 ≤ 140737488355328) (hBw : B ≤ w.heap.size) :
    Calls Tryd.prog 37 #[.pointer (some ⟨b, 0, none⟩), .int .u8 c] w fun e w' => e = .returned .nilIface ∧ (Lib.BuilderAt 59 5 B b (.pointer (some ⟨b, 0, none⟩)) (bs ++ [.int .u8 c]) w' ∧ Below B w w') := Any.Builder_WriteByte lays167 Builder_Extra_W B b bs c w h hlen hBw
end Go.Proofs.YtoejflnlkapkiaaDoor
/- Package script: rows of texts that grow, without a bound of 1000. -/
namespace Go.Proofs.YtoejflnlkapkiaaDoor
open Go.ChangeShapes Go.WideShapes Go.ChangeAt Go.RowKit
set_option linter.unusedVariables false
set_option linter.unusedSimpArgs false
/-- One element more. -/
theorem append_gL {ops : Array Oper} {rest : List Oper} {o : Oper} {a : Act} {Q : Exit → Act → World → Prop} {W : World} {T E : TypeId} {sz bys B : Nat} {v : Value} {n : Nat} {xs news : List Value} (hT : Tryd.prog.underlying T = some (.slice E))
    (hI : (Tryd.prog.info? E).map (fun i => (i.zero.map (fun z => z.cells.size), i.size, i.bytes)) = some (some sz, sz, bys)) (hsz : 0 < sz) (hby : bys ≤ 128) (hgd : o.guard = none) (s x : Operand)
    (ho : o.op = .call { callee := .builtin .append, args := #[s, x], argTypes := #[T, T] }) (hs : a.eval s = v) (hown : W.ownsRow B E sz v n xs) (hx : a.eval x = .slice (some ⟨W.heap.size, 0, none⟩) 1 1) (hB : B ≤ W.heap.size) (hn : n < 10000000)
    (hl : news.length = sz) (h1 : ∀ u ∈ news, u.oneCell' = true)
    (h : ∀ v' w', w'.ownsRow B E sz v' (n + 1) (xs ++ news) → Below B W w' → wpList Tryd.prog ops Q rest (a.put o.dst v') w') : wpList Tryd.prog ops Q (o :: rest) a (W.alloc (.cells news.toArray E)) := by
  obtain ⟨i0, hi⟩ : ∃ i, Tryd.prog.info? E = some i := by
    cases h0 : Tryd.prog.info? E with
    | none => rw [h0] at hI; cases hI
    | some i => exact ⟨i, rfl⟩
  rw [hi] at hI
  simp only [Option.map_some, Option.some.injEq, Prod.mk.injEq] at hI
  obtain ⟨hz, hsz2, hby2⟩ := hI
  obtain ⟨z, hz1, hz2⟩ : ∃ z, i0.zero = some z ∧ z.cells.size = sz := by
    cases h0 : i0.zero with
    | none => rw [h0] at hz; cases hz
    | some z => rw [h0] at hz; simp at hz; exact ⟨z, rfl, hz⟩
  refine wpList_append_lies _ hgd s x T ho B E i0 z sz bys hT hi hz1 hsz2 hby2 hz2 hsz v n xs hs (World.ownsRow.alloc hown _) ⟨W.heap.size, 0, none⟩ 1 1 news hx (by omega) ?_ h1 (by decide) ?_ ?_ (by simp; omega) _ rfl ?_
  · intro j u hj
    exact World.news_of_block (heap_alloc_new W (.cells news.toArray E)) j u (by simpa using hj)
  · unfold maxLen; omega
  · have : (n + 1) * bys ≤ 10000000 * 128 := Nat.mul_le_mul (by omega) hby
    omega
  · intro g cap w' h2 h3 _ _
    exact h _ w' h2 (((Below.refl _ _).alloc hB _).grown h3 (by simp; omega) (fun i hi => (World.ownsRow.lt hown i hi).1))
/-- A number's digits, as a text. -/
def itS (x : Int) : ByteArray := ⟨(Lib.itoa x).toArray⟩
def wsI (f : ByteArray) (xs : List Int) : List Value := .string f :: xs.map (fun x => .string (itS x))
theorem wsI_len (f : ByteArray) (xs : List Int) : (wsI f xs).length = xs.length + 1 := by unfold wsI; simp
theorem wsI_step {f : ByteArray} {xs : List Int} {k : Nat} (h : k < xs.length) : wsI f (xs.take (k + 1)) = wsI f (xs.take k) ++ [.string (itS (xs.getD k 0))] := by
  unfold wsI
  rw [List.take_add_one, List.getElem?_eq_getElem h, List.map_append, List.cons_append]
  rw [List.getD_eq_getElem?_getD, List.getElem?_eq_getElem h]
  rfl
end Go.Proofs.YtoejflnlkapkiaaDoor
/- Package script: numbers and line. -/
namespace Go.Proofs.YtoejflnlkapkiaaDoor
open Go.ChangeShapes Go.WideShapes Go.ChangeAt Go.RowKit
set_option linter.unusedVariables false
set_option linter.unusedSimpArgs false
theorem pow10_bel {w w' : World} {zs : List Int} (h : Lib.TabIs Tryd.prog w "internal/strconv.uint64pow10" .u64 zs) (hb : Below w.heap.size w w') : Lib.TabIs Tryd.prog w' "internal/strconv.uint64pow10" .u64 zs := by
  unfold Lib.TabIs World.var? at h ⊢
  cases hg : Tryd.prog.globalNamed "internal/strconv.uint64pow10" with
  | none => rw [hg] at h; exact h
  | some g =>
    rw [hg] at h
    simp only [Option.bind_some] at h ⊢
    by_cases hlt : g < w.heap.size
    · rw [hb.block g hlt]; exact h
    · rw [Array.getElem?_eq_none (by omega)] at h; cases h
theorem own_made1 (w : World) (B : Nat) (E : TypeId) (u : Value) (hB : B ≤ w.heap.size) : (w.alloc (.cells #[u] E)).ownsRow B E 1 (.slice (some ⟨w.heap.size, 0, none⟩) 1 1) 1 [u] :=
  ⟨rfl, .inr ⟨w.heap.size, 1, #[u], rfl, hB, heap_alloc_new _ _, Nat.le_refl _, by decide, rfl, rfl⟩⟩
theorem sc_meas (n k : Nat) (h : k < n) : n - (intOf (.int .i64 ((k + 1 : Nat) : Int))).toNat < n - (intOf (.int .i64 (k : Int))).toNat := by simp only [intOf]; omega
theorem sc_meas' (n k : Nat) (h : k < n) : n - (intOf (.int .i64 ((k : Int) + 1))).toNat < n - (intOf (.int .i64 (k : Int))).toNat := by simp only [intOf]; omega
set_option maxRecDepth 100000 in
set_option maxHeartbeats 4000000 in
theorem sc_numbers (f : ByteArray) (p : Option Addr) (n c : Nat) (xs : List Int) (W : World) (h : RowI W p n xs) (hn : n ≤ 5000000) (hT : Lib.TabIs Tryd.prog W "internal/strconv.uint64pow10" .u64 Lib.pow10Tab) :
    Calls Tryd.prog 21 #[.string f, .slice p n c] W fun e w' => ∃ v, e = .returned v ∧ w'.ownsRow W.heap.size 9 1 v (n + 1) (wsI f xs) ∧ Below W.heap.size W w' := by
  have HR := Lib.hid h
  have HT_ := Lib.hid hT
  have HN := Lib.hid hn
  obtain ⟨w0, hw0⟩ : ∃ w0, W.alloc (.cells #[.string f] 9) = w0 := ⟨_, rfl⟩
  have HO0 := Lib.hid (show w0.ownsRow W.heap.size 9 1 (.slice (some ⟨W.heap.size, 0, none⟩) 1 1) 1 (wsI f (xs.take 0)) by rw [← hw0]; exact own_made1 W _ _ _ (Nat.le_refl _))
  have HB0 := Lib.hid (show Below W.heap.size W w0 by rw [← hw0]; exact (Below.refl _ _).alloc (Nat.le_refl _) _)
  have HL := Lib.hid h.len
  clear h hT hn
  go_enter Tryd.func21, Tryd.ntmps21
  go_wp2_with fail
  try rw [hw0]
  clear hw0
  go_loopw [5, 12] (fun v j wr => ∃ k : Nat, j = .int .i64 k ∧ Hid (k ≤ n) ∧ Hid (wr.ownsRow W.heap.size 9 1 v (k + 1) (wsI f (xs.take k))) ∧ Hid (Below W.heap.size W wr)) (fun _ j _ => n - (intOf j).toNat)
  case atStart => exact ⟨0, rfl, Lib.hid (Nat.zero_le _), HO0, HB0⟩
  case round =>
    obtain ⟨k, rfl, HK, HO, HB⟩ := hrel
    obtain ⟨x1, rfl⟩ : ∃ w, w = wr := ⟨_, rfl⟩
    by_cases hk : k < n
    · have HR1 := HR.out.below HB.out
      obtain ⟨b, off, rfl, hb, hc, x0, x1'⟩ := HR1.cell hk
      have HKL := Lib.hid hk
      have hkk : (k : Int) < (n : Int) := by omega
      have hk0 : (0 : Int) ≤ (k : Int) := by omega
      obtain ⟨z, hz⟩ : ∃ z, xs.getD k 0 = z := ⟨_, rfl⟩
      rw [hz] at hc x0 x1'
      have HST := Lib.hid (show wsI f (xs.take (k + 1)) = wsI f (xs.take k) ++ [.string (itS z)] by rw [← hz]; exact wsI_step (by rw [HL.out]; exact hk))
      have IT := Lib.hid (c_strconv_Itoa z x0 x1' x1 (pow10_bel HT_.out HB.out))
      have WK := Lib.hid (show wrap64 ((k : Int) + 1) = ((k + 1 : Nat) : Int) by have := HN.out; simp only [wrap64]; omega)
      have HV := Lib.hid (World.ownsRow.lt HO.out)
      clear hk hb hz x0 x1' HR1
      go_wp2_with fail
      refine IT.out.mono ?_
      rintro e x2 ⟨rfl, q, os, hx2⟩
      have hb2 := Lib.below_grow x1.heap.size x1 (Nat.le_refl _) q os
      rw [← hx2] at hb2
      clear hx2
      have HO2 := Lib.hid (own_below HO.out hb2)
      have HB2 := Lib.hid (HB.out.trans (hb2.mono HB.out.size))
      have hsz := HB2.out.size
      clear hb2
      have hkn : k + 1 < 10000000 := by have := HN.out; have := HKL.out; omega
      go_wp2_with (at_builtin; refine append_gL (T := 31) (E := 9) (sz := 1) (bys := 16) (B := W.heap.size) (xs := wsI f (xs.take k)) (news := [.string (itS z)]) Tryd.underlying31 info_str (by decide) (by decide) rfl _ _ rfl rfl HO2.out rfl hsz hkn rfl (by intro u hu; simp at hu; subst hu; rfl) ?_; intro v3 x3 hO3 hb3; have HO3 := Lib.hid hO3; have HB3 := Lib.hid hb3; clear hO3 hb3)
      go_roundw
      case rel => exact ⟨k + 1, by first | rw [WK.out] | simp, Lib.hid HKL.out, Lib.hid (by rw [HST.out]; exact HO3.out), Lib.hid (HB2.out.trans HB3.out)⟩
      case measure => first | exact sc_meas' n k HKL.out | (rw [WK.out]; exact sc_meas n k HKL.out)
    · have h9 : k = n := by have := HK.out; omega
      subst h9
      have hkk : ¬ (k : Int) < (k : Int) := by omega
      go_wp2_with fail
      go_ret
      have h := HO.out
      rw [List.take_of_length_le (by rw [HL.out]; exact Nat.le_refl _)] at h
      exact ⟨_, rfl, h, HB.out⟩
/-- A line's bytes. -/
def lineB (ws : List ByteArray) : List UInt8 := Lib.join (ws.map (·.data.toList)) [32] ++ [10]
/-- An own row of texts, cell by cell. -/
theorem own_texts {w : World} {B : Nat} {v : Value} {n : Nat} {ws : List ByteArray} (h : w.ownsRow B 9 1 v n (ws.map (Value.string ·))) (hn : 0 < n) :
    ∃ g c, v = .slice (some ⟨g, 0, none⟩) n c ∧ ws.length = n ∧ n ≤ c ∧ g < w.heap.size ∧ ∀ (j : Nat) x, ws[j]? = some x → w.cell? ⟨g, 0 + j, none⟩ = some (.string x) := by
  have hl : ws.length = n := by have := h.1; simpa using this
  rcases own_form h with ⟨-, h0, -⟩ | ⟨g, c, rfl, -, hg, hc, -, hx⟩
  · omega
  · refine ⟨g, c, rfl, hl, hc, hg, fun j x hj => ?_⟩
    have lt := (List.getElem?_eq_some_iff.1 hj).1
    obtain ⟨u, h1, h2, -⟩ := hx j (by omega)
    rw [List.getElem?_map, hj] at h1
    simp at h1
    rw [Nat.zero_add, h2, ← h1]
theorem bytes_line (l : List UInt8) (s : ByteArray) : Lib.byteCells l ++ Lib.strCells s ++ [.int .u8 10] = Lib.byteCells (l ++ (s.data.toList ++ [10])) := by
  unfold Lib.byteCells Lib.strCells
  simp
theorem bytes_line' (l : List UInt8) (x : List UInt8) : Lib.byteCells l ++ Lib.strCells ⟨x.toArray⟩ ++ [.int .u8 10] = Lib.byteCells (l ++ (x ++ [10])) := bytes_line l ⟨x.toArray⟩
theorem bat_below {T e : TypeId} {B b : Nat} {p : Value} {bs : List Value} {w w' : World} (h : Lib.BuilderAt T e B b p bs w) (hb : Below w.heap.size w w') : Lib.BuilderAt T e B b p bs w' := by
  obtain ⟨hB, v, hbk, hown, hne⟩ := h
  exact ⟨hB, v, (hb.block b (Array.getElem?_eq_some_iff.1 hbk).1).trans hbk, own_below hown hb, hne⟩
theorem isb_below {T e : TypeId} {B b : Nat} {bs : List Value} {w w' : World} (h : Lib.IsBuilder T e B b bs w) (hb : Below w.heap.size w w') : Lib.IsBuilder T e B b bs w' := by
  rcases h with h | h
  · exact .inl (bat_below h hb)
  · exact .inr (bat_below h hb)
set_option maxRecDepth 100000 in
set_option maxHeartbeats 4000000 in
theorem sc_line (B b : Nat) (l : List UInt8) (B' : Nat) (v : Value) (n : Nat) (ws : List ByteArray) (W : World) (h : Lib.IsBuilder 59 5 B b (Lib.byteCells l) W) (hB : B ≤ W.heap.size) (ho : W.ownsRow B' 9 1 v n (ws.map (Value.string ·))) (hn : 0 < n) (hn2 : n ≤ 1000000000)
    (hlen : l.length + (lineB ws).length ≤ 1000000000) :
    Calls Tryd.prog 20 #[.pointer (some ⟨b, 0, none⟩), v] W fun e w' => e = .returned (.tuple #[]) ∧ Lib.IsBuilder 59 5 B b (Lib.byteCells (l ++ lineB ws)) w' ∧ Below B W w' := by
  obtain ⟨g, c, rfl, hl, hc, hg, hx⟩ := own_texts ho hn
  obtain ⟨J, hJ⟩ : ∃ J, Lib.join (ws.map (·.data.toList)) [32] = J := ⟨_, rfl⟩
  have hLB : lineB ws = J ++ [10] := by unfold lineB; rw [hJ]
  rw [hLB] at hlen ⊢
  have hJl : l.length + J.length + 1 ≤ 1000000000 := by simp at hlen; omega
  have CJ := c_strings_Join g 0 c ws ⟨#[32]⟩ W hx hg (by omega) (by omega) (by show (Lib.join (ws.map (·.data.toList)) [32]).length ≤ _; rw [hJ]; omega)
  rw [hl] at CJ
  have hJ2 : Lib.join (ws.map (·.data.toList)) ((⟨#[32]⟩ : ByteArray).data.toList) = J := hJ
  rw [hJ2] at CJ
  have CJ := Lib.hid CJ
  have HBU := Lib.hid h
  have HJL := Lib.hid hJl
  have HBZ := Lib.hid hB
  clear h hB ho hn hn2 hlen hx hl hJ hLB hJ2 hJl
  go_enter Tryd.func20, Tryd.ntmps20
  go_wp2_with fail
  refine CJ.out.mono ?_
  rintro e x1 ⟨rfl, hb1⟩
  have hbu1 : Lib.IsBuilder 59 5 B b (Lib.byteCells l) x1 := isb_below HBU.out hb1
  have CW := Lib.hid (c_b_Write B b (Lib.byteCells l) ⟨J.toArray⟩ x1 hbu1 (by have := HJL.out; rw [Lib.byteCells_length]; show l.length + J.toArray.size ≤ _; simp; omega) (Nat.le_trans HBZ.out hb1.size))
  have HB1 := Lib.hid (hb1.mono HBZ.out)
  clear hbu1 hb1
  go_wp2_with fail
  refine CW.out.mono ?_
  rintro e x2 ⟨rfl, hbu2, hb2⟩
  have CB := Lib.hid (c_b_Byte B b (Lib.byteCells l ++ Lib.strCells ⟨J.toArray⟩) 10 x2 (.inr hbu2) (by have := HJL.out; rw [List.length_append, Lib.byteCells_length]; simp [Lib.strCells]; omega) (Nat.le_trans HBZ.out (HB1.out.trans hb2).size))
  have HB2 := Lib.hid (HB1.out.trans hb2)
  clear hbu2 hb2
  go_wp2_with fail
  refine CB.out.mono ?_
  rintro e x3 ⟨rfl, hbu3, hb3⟩
  go_wp2_with fail
  go_end0
  rw [bytes_line'] at hbu3
  exact ⟨rfl, .inr hbu3, HB2.out.trans hb3⟩
end Go.Proofs.YtoejflnlkapkiaaDoor
/- The contracts of package gold (and of what it calls in wide and math/bits): each call returns the field's number that the exact one leaves. -/
namespace Go.Proofs.YtoejflnlkapkiaaDoor
open Go.ChangeShapes Go.WideShapes Go.ChangeAt Go.RowKit
set_option linter.unusedVariables false

theorem ret_uu {a b c d : Int} (h : a = b) (h' : c = d) : Ending.returned (.tuple #[.int .u64 a, .int .u64 c]) = .returned (.tuple #[.int .u64 b, .int .u64 d]) := by rw [h, h']
theorem and_low_mod (z : Int) : bits .and .u64 (z % 18446744073709551616) 4294967295 = z % 18446744073709551616 % 4294967296 := and_low32 _ (by omega) (by omega)

/-- What is folded: 2^64 leaves 2^32 - 1, 2^96 leaves -1. -/
theorem wide_fold (h l : Int) : fm (h * 18446744073709551616 + l) = fm (l - h / 4294967296 + h % 4294967296 * 4294967295) := by unfold fm; omega

theorem mul_parts (x y : Int) (hx : 0 ≤ x) (hx1 : x ≤ 18446744073709551615) (hy : 0 ≤ y) (hy1 : y ≤ 18446744073709551615) : 0 ≤ x * y / 18446744073709551616 ∧ x * y / 18446744073709551616 ≤ 18446744073709551615 := by
  have h0 := Int.mul_nonneg hx hy
  have h1 := Int.mul_le_mul hx1 hy1 hy (by omega : (0 : Int) ≤ 18446744073709551615)
  generalize x * y = z at *
  omega

theorem half_fm (a h : Int) (h0 : 0 ≤ h) (h1 : h ≤ 18446744069414584320) (k : Int) (e : h + h = fm a + k * 18446744069414584321) : fm (h + h) = fm a := by unfold fm at *; omega

theorem and_one (k : Int) (h0 : 0 ≤ k) (h1 : k ≤ 18446744073709551615) : bits .and .u64 k 1 = k % 2 := by go_bits2

/-- Half of a number: h with h + h = a. -/
def hlf (a : Int) : Int := if a % 2 = 0 then a / 2 else a / 2 + 9223372034707292161
theorem hlf_ok (a : Int) (h0 : 0 ≤ a) (h1 : a ≤ 18446744069414584320) : 0 ≤ hlf a ∧ hlf a ≤ 18446744069414584320 ∧ fm (hlf a + hlf a) = a := by
  unfold hlf fm; split <;> omega

end Go.Proofs.YtoejflnlkapkiaaDoor
