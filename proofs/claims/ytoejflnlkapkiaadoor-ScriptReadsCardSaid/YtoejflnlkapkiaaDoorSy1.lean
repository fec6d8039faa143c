/- Put together by program (merge2.py): Base Lexa Lexb Rowz Own Rowi Owni. -/
import Derived.Test.YtoejflnlkapkiaaDoorRows
import Derived.WalkKit
import Derived.ProofKit
import Derived.OpenShut
import Derived.WalkLawsBesides
import Derived.Handy
import Derived.Laws.Externs
import Derived.Lib.Hide
import Derived.ChangeSlices
import Derived.Deep.RegionHeld3
import Derived.BigQuiet
import Derived.Deep.QuietTactic
import Derived.WalkSmall
import Derived.WalkSpells
import Derived.Laws.Strings2
import Derived.Laws.RangeAny
import Derived.Lib.OthersKept
import Derived.Deep.AppendLies
import Derived.Deep.AppendSrc
import Derived.Deep.Upon
/- Small facts that every walk of this seat uses: no Go text in sight. -/
namespace Go.Proofs.YtoejflnlkapkiaaDoor
open Go.ChangeShapes Go.WideShapes Go.ChangeAt Go.RowKit
set_option linter.unusedVariables false

theorem ret_u64 {a b : Int} (h : a = b) : Ending.returned (.int .u64 a) = .returned (.int .u64 b) := by rw [h]
theorem ret_i64 {a b : Int} (h : a = b) : Ending.returned (.int .i64 a) = .returned (.int .i64 b) := by rw [h]
theorem ret_bool {a b : Bool} (h : a = b) : Ending.returned (.bool a) = .returned (.bool b) := by rw [h]

/-- Old cells and marks behind a part of the walk that has made memory alone. -/
theorem bcell {W w1 : World} (hb : Below W.heap.size W w1) : (∀ b o, b < W.heap.size → w1.cell? ⟨b, o, none⟩ = W.cell? ⟨b, o, none⟩) ∧ (∀ b o, b < W.heap.size → w1.frozen? ⟨b, o, none⟩ = W.frozen? ⟨b, o, none⟩) :=
  ⟨fun b o h => hb.cell (p := ⟨b, o, none⟩) h, fun b o h => hb.frozen (p := ⟨b, o, none⟩) h⟩

/-- A slice's elements, as they are read: xs, from its address on. -/
def Reads (k : IntKind) (w : World) (a : Option Addr) (xs : List Int) : Prop :=
  xs = [] ∨ ∃ (b off : Nat), a = some ⟨b, off, none⟩ ∧ b < w.heap.size ∧ ∀ i, i < xs.length → w.cell? ⟨b, off + i, none⟩ = some (.int k (xs.getD i 0))

/-- A slice of integers that came in: its elements, each in order; there are no more than a machine has. -/
def IsRow (k : IntKind) (w : World) (a : Option Addr) (n c : Nat) : Prop :=
  ∃ xs : List Int, xs.length = n ∧ n ≤ c ∧ n ≤ 9223372036854775807 ∧ Reads k w a xs ∧ ∀ x ∈ xs, (Lit.int k x).wf = true

theorem isRow_of {H : Type} {enc : TypeId × Value → H} {P : Program} {w : World} {base : Nat} {spare : Nat → Bool} {held : Bool} {t e : TypeId} {k : IntKind} {a : Option Addr} {n c : Nat} {d : DataW H} {p : List MemPlace}
    (ht : P.underlying t = some (.slice e)) (he : P.underlying e = some (.int k)) (hc : P.cellsOf e = 1) (h : DataW.Trod enc P w base spare held t (.slice a n c) d p) : IsRow k w a n c := by
  obtain ⟨fuel, hf⟩ := h
  rcases open_ints ht he hc hf with ⟨hcs, _⟩ | ⟨x, l, c', zs, hcs, _, hl, hm, hz, _, hcell, hwz⟩
  · simp [Value.cells] at hcs
    obtain ⟨rfl, rfl, rfl⟩ := hcs
    exact ⟨[], rfl, Nat.le_refl _, by omega, .inl rfl, by simp⟩
  · simp [Value.cells] at hcs
    obtain ⟨rfl, rfl, rfl⟩ := hcs
    have hzn : n ≤ zs.length := by rw [hz]; split <;> omega
    unfold maxLen at hm
    refine ⟨zs.take n, by simp; omega, hl, by omega, ?_, fun x hx => hwz x (List.mem_of_mem_take hx)⟩
    rcases Nat.eq_zero_or_pos n with h0 | h0
    · left; rw [h0]; rfl
    · right
      obtain ⟨b, off, spot⟩ := x
      have h00 := hcell 0 (by omega)
      have hspot : spot = none := by simpa [Addr.add] using World.cell?_spot h00
      subst hspot
      refine ⟨b, off, rfl, by have := block_lt_of_cell h00; simpa [Addr.add] using this, fun i hi => ?_⟩
      have hi' : i < n := by simp at hi; omega
      have hci := hcell i (by omega)
      have e : (zs.take n).getD i 0 = zs.getD i 0 := by simp [List.getD, List.getElem?_take, hi']
      have ea : (⟨b, off, none⟩ : Addr).add i = ⟨b, off + i, none⟩ := by unfold Addr.add; split <;> simp_all
      rw [ea] at hci
      rw [e]
      exact hci

theorem open_array2 {H : Type} {enc : TypeId × Value → H} {P : Program} {w : World} {r : Reach} {b0 base : Nat} {spare : Nat → Bool} {held : Bool} {t e : TypeId} {k : IntKind} {v : Value} {d : DataW H} {p : List MemPlace}
    (ht : P.underlying t = some (.array 2 e)) (he : P.underlying e = some (.int k)) (hc : P.cellsOf e = 1) (hct : P.cellsOf t = 2) (hv : Value.okWide P w r b0 t v) (h : DataW.Trod enc P w base spare held t v d p) :
    ∃ x y : Int, v = .agg #[.int k x, .int k y] ∧ (Lit.int k x).wf = true ∧ (Lit.int k y).wf = true := by
  simp only [Value.okWide, ht] at hv
  obtain ⟨cs, rfl, hsz, _⟩ := hv
  rw [hct] at hsz
  obtain ⟨c0, c1, rfl⟩ : ∃ c0 c1, cs = #[c0, c1] := by
    obtain ⟨l⟩ := cs
    match l, hsz with
    | [x, y], _ => exact ⟨x, y, rfl⟩
  obtain ⟨fuel, hf⟩ := h
  obtain ⟨xs, m, rfl, _, _, hlen, hel⟩ := DataW.trod_array ht hf
  have e0 := hel 0 (by omega)
  have e1 := hel 1 (by omega)
  obtain ⟨x0, hx0⟩ : ∃ x, xs[0]? = some x := ⟨xs[0], by simp⟩
  obtain ⟨x1, hx1⟩ : ∃ x, xs[1]? = some x := ⟨xs[1], by simp⟩
  simp only [hc, Value.cells, hx0] at e0
  simp only [hc, Value.cells, hx1] at e1
  obtain ⟨u, hu, _, wu⟩ := DataW.trod_int he e0
  obtain ⟨v, hv', _, wv⟩ := DataW.trod_int he e1
  simp at hu hv'
  exact ⟨u, v, by rw [hu, hv'], wu, wv⟩

/-- Two cells of a block of one's own, kept by whatever makes memory alone. -/
theorem keep3 {W1 w w' : World} {p q : Addr} {u v : Value} (h0 : W1.cell? p = some u) (h1 : W1.cell? q = some v) (hS : w.cell? p = some u ∧ w.cell? q = some v ∧ Below W1.heap.size W1 w) (hb : Below w.heap.size w w') :
    w'.cell? p = some u ∧ w'.cell? q = some v ∧ Below W1.heap.size W1 w' := by
  have hz := hS.2.2.trans (hb.mono hS.2.2.size)
  exact ⟨(hz.cell (block_lt_of_cell h0)).trans h0, (hz.cell (block_lt_of_cell h1)).trans h1, hz⟩

/-- The field's number that x leaves. -/
def fm (x : Int) : Int := x % 18446744069414584321
theorem fm_lo (x : Int) : 0 ≤ fm x := by unfold fm; omega
theorem fm_hi (x : Int) : fm x ≤ 18446744069414584320 := by unfold fm; omega
theorem fm_hi' (x : Int) : fm x ≤ 18446744073709551615 := by unfold fm; omega
theorem fm_of (x y k : Int) (h : x = y + k * 18446744069414584321) (h0 : 0 ≤ y) (h1 : y ≤ 18446744069414584320) : fm x = y := by unfold fm; omega
theorem fm_small (x : Int) (h0 : 0 ≤ x) (h1 : x ≤ 18446744069414584320) : fm x = x := by unfold fm; omega
theorem fm_fm (x : Int) : fm (fm x) = fm x := by unfold fm; omega
theorem fm_add_fm (x y : Int) : fm (fm x + fm y) = fm (x + y) := by unfold fm; omega
theorem fm_add_l (x y : Int) : fm (fm x + y) = fm (x + y) := by unfold fm; omega
theorem fm_add_r (x y : Int) : fm (x + fm y) = fm (x + y) := by unfold fm; omega
theorem fm_sub_fm (x y : Int) : fm (fm x - fm y) = fm (x - y) := by unfold fm; omega
theorem fm_sub_l (x y : Int) : fm (fm x - y) = fm (x - y) := by unfold fm; omega
theorem fm_sub_r (x y : Int) : fm (x - fm y) = fm (x - y) := by unfold fm; omega
theorem fm_mul_fm (x y : Int) : fm (fm x * fm y) = fm (x * y) := (Int.mul_emod x y _).symm
theorem fm_mul_l (x y : Int) : fm (fm x * y) = fm (x * y) := by
  have := fm_mul_fm (fm x) y
  rw [fm_fm] at this
  rw [← this, fm_mul_fm]
theorem fm_mul_r (x y : Int) : fm (x * fm y) = fm (x * y) := by rw [Int.mul_comm, fm_mul_l, Int.mul_comm]
theorem fm_eq (x y k : Int) (h : x = y + k * 18446744069414584321) : fm x = fm y := by unfold fm; omega
theorem fm_zero : fm 0 = 0 := by decide
theorem fm_one : fm 1 = 1 := by decide

end Go.Proofs.YtoejflnlkapkiaaDoor
/- Package lex, the numbers: kinds of bytes; tokens byte by byte. -/
namespace Go.Proofs.YtoejflnlkapkiaaDoor
open Go.ChangeShapes Go.WideShapes Go.ChangeAt Go.RowKit
set_option linter.unusedVariables false
set_option linter.unusedSimpArgs false

/-- The kind of a sign; 0: none. -/
def kd (x : Int) : Int := if 97 ≤ x ∧ x ≤ 122 then 1 else if 48 ≤ x ∧ x ≤ 57 then 2 else if x = 40 ∨ x = 41 ∨ x = 44 then 3 else 0
theorem kd_ascii {x : Int} (h : kd x ≠ 0) : 0 ≤ x ∧ x < 128 := by
  unfold kd at h
  split at h
  · omega
  · split at h
    · omega
    · split at h
      · omega
      · simp at h
theorem kd_high {x : Int} (h : 128 ≤ x) : kd x = 0 := by
  unfold kd
  rw [if_neg (by omega), if_neg (by omega), if_neg (by omega)]
theorem kd_le (x : Int) : 0 ≤ kd x ∧ kd x ≤ 3 := by
  unfold kd; split
  · omega
  · split
    · omega
    · split <;> omega

/-- The byte at a place. -/
def bt (s : ByteArray) (i : Nat) : Nat := (s.get! i).toNat
theorem bt_eq (s : ByteArray) (i : Nat) (h : i < s.size) : (s[i]'h).toNat = bt s i := by
  rw [bt, show s.get! i = s.get! (i + 0) from rfl, get_at s i h]
theorem bt_lt (s : ByteArray) (i : Nat) : bt s i < 256 := (s.get! i).toNat_lt

/-- What came of the bytes so far: tokens (kind, from, to), none where a sign is none. -/
def tk (s : ByteArray) : Nat → Option (List (Int × Nat × Nat))
  | 0 => some []
  | i + 1 => match tk s i with
    | none => none
    | some l => if kd (bt s i) = 0 then none else match l.getLast? with
      | some (k, a, b) => if kd (bt s i) ≠ 3 ∧ k = kd (bt s i) then some (l.dropLast ++ [(k, a, i + 1)]) else some (l ++ [(kd (bt s i), i, i + 1)])
      | none => some (l ++ [(kd (bt s i), i, i + 1)])
theorem tk_none {s : ByteArray} {i j : Nat} (h : tk s i = none) (hij : i ≤ j) : tk s j = none := by
  induction j with
  | zero => obtain rfl : i = 0 := by omega
            exact h
  | succ j ih =>
    by_cases e : i = j + 1
    · rw [← e]; exact h
    · simp [tk, ih (by omega)]
theorem tk_stop {s : ByteArray} {i j : Nat} (h : kd (bt s i) = 0) (hij : i < j) : tk s j = none := by
  refine tk_none (i := i + 1) ?_ hij
  simp only [tk]
  cases tk s i with
  | none => rfl
  | some l => simp [h]

end Go.Proofs.YtoejflnlkapkiaaDoor
/- Rows of whatever elements that grow by append: their cells, stores in place; rows of tokens and of texts. -/
namespace Go.Proofs.YtoejflnlkapkiaaDoor
open Go.ChangeShapes Go.WideShapes Go.ChangeAt Go.RowKit
set_option linter.unusedVariables false
set_option linter.unusedSimpArgs false

/-- One element more. -/
theorem append_g {ops : Array Oper} {rest : List Oper} {o : Oper} {a : Act} {Q : Exit → Act → World → Prop} {W : World} {T E : TypeId} {sz bys B : Nat} {v : Value} {n : Nat} {xs news : List Value} (hT : Tryd.prog.underlying T = some (.slice E))
    (hI : (Tryd.prog.info? E).map (fun i => (i.zero.map (fun z => z.cells.size), i.size, i.bytes)) = some (some sz, sz, bys)) (hsz : 0 < sz) (hby : bys ≤ 64) (hgd : o.guard = none) (s x : Operand)
    (ho : o.op = .call { callee := .builtin .append, args := #[s, x], argTypes := #[T, T] }) (hs : a.eval s = v) (hown : W.ownsRow B E sz v n xs) (hx : a.eval x = .slice (some ⟨W.heap.size, 0, none⟩) 1 1) (hB : B ≤ W.heap.size) (hn : n < 1000)
    (hl : news.length = sz) (h1 : ∀ u ∈ news, u.oneCell' = true)
    (h : ∀ v' w', w'.ownsRow B E sz v' (n + 1) (xs ++ news) → Below B W w' → wpList Tryd.prog ops Q rest (a.put o.dst v') w') : wpList Tryd.prog ops Q (o :: rest) a (W.alloc (.cells news.toArray E)) := by
  obtain ⟨i0, hi⟩ : ∃ i, Tryd.prog.info? E = some i := by
    cases h0 : Tryd.prog.info? E with
    | none => rw [h0] at hI; cases hI
    | some i => exact ⟨i, rfl⟩
  rw [hi] at hI
  simp only [Option.map_some, Option.some.injEq, Prod.mk.injEq] at hI
  obtain ⟨hz, hsz2, hby2⟩ := hI
  obtain ⟨z, hz1, hz2⟩ : ∃ z, i0.zero = some z ∧ z.cells.size = sz := by
    cases h0 : i0.zero with
    | none => rw [h0] at hz; cases hz
    | some z => rw [h0] at hz; simp at hz; exact ⟨z, rfl, hz⟩
  refine wpList_append_lies _ hgd s x T ho B E i0 z sz bys hT hi hz1 hsz2 hby2 hz2 hsz v n xs hs (World.ownsRow.alloc hown _) ⟨W.heap.size, 0, none⟩ 1 1 news hx (by omega) ?_ h1 (by decide) ?_ ?_ (by simp; omega) _ rfl ?_
  · intro j u hj
    exact World.news_of_block (heap_alloc_new W (.cells news.toArray E)) j u (by simpa using hj)
  · unfold maxLen; omega
  · have : (n + 1) * bys ≤ 1000 * 64 := Nat.mul_le_mul (by omega) hby
    omega
  · intro g cap w' h2 h3 _ _
    exact h _ w' h2 (((Below.refl _ _).alloc hB _).grown h3 (by simp; omega) (fun i hi => (World.ownsRow.lt hown i hi).1))

/-- What an own row is. -/
theorem own_form {w : World} {B : Nat} {E : TypeId} {sz : Nat} {v : Value} {n : Nat} {xs : List Value} (h : w.ownsRow B E sz v n xs) :
    (v = .slice none 0 0 ∧ n = 0 ∧ xs = []) ∨ ∃ g c, v = .slice (some ⟨g, 0, none⟩) n c ∧ B ≤ g ∧ g < w.heap.size ∧ n ≤ c ∧ c ≤ maxLen ∧ (∀ i, i < n * sz → ∃ u, xs[i]? = some u ∧ w.cell? ⟨g, i, none⟩ = some u ∧ w.frozen? ⟨g, i, none⟩ = false) := by
  obtain ⟨hl, h | ⟨g, cap, cur, rfl, hb, hh, hn, hm, hs, ht⟩⟩ := h
  · obtain ⟨rfl, rfl⟩ := h
    exact .inl ⟨rfl, rfl, List.length_eq_zero_iff.1 (by omega)⟩
  · refine .inr ⟨g, cap, rfl, hb, ?_, hn, hm, fun i hi => ?_⟩
    · by_cases hlt : g < w.heap.size
      · exact hlt
      · have : w.heap[g]? = none := by simp; omega
        rw [this] at hh; simp at hh
    · have h2 : i < xs.length := by omega
      refine ⟨xs[i], by simp [h2], ?_, frozen_of_row w g i _ _ hh⟩
      rw [cell_of_row w g i _ _ _ hh]
      have : cur[i]? = xs[i]? := by
        rw [← ht, List.getElem?_take, if_pos hi]
        simp
      rw [this]
      simp [h2]

theorem row_setC {w : World} {g o : Nat} {cs : Array Value} {T : TypeId} {fr : Nat × Nat} (h : w.heap[g]? = some (.cells cs T fr)) (v : Value) : (w.setCell ⟨g, o, none⟩ v).heap[g]? = some (.cells (cs.setIfInBounds o v) T fr) := by
  simp [World.setCell, Array.getElem?_modify, h]
/-- A store into one of its cells. -/
theorem own_set {w : World} {B : Nat} {E : TypeId} {sz : Nat} {g c n : Nat} {xs : List Value} (h : w.ownsRow B E sz (.slice (some ⟨g, 0, none⟩) n c) n xs) (i : Nat) (u : Value) : (w.setCell ⟨g, i, none⟩ u).ownsRow B E sz (.slice (some ⟨g, 0, none⟩) n c) n (xs.set i u) := by
  obtain ⟨hl, h | ⟨g', cap, cur, hv, hb, hh, hn, hm, hs, ht⟩⟩ := h
  · obtain ⟨h, _⟩ := h; cases h
  · simp only [Value.slice.injEq, Option.some.injEq, Addr.mk.injEq] at hv
    obtain ⟨⟨rfl, -, -⟩, -, rfl⟩ := hv
    refine ⟨by simpa using hl, .inr ⟨g, c, cur.setIfInBounds i u, rfl, hb, ?_, hn, hm, by simpa using hs, ?_⟩⟩
    · exact row_setC hh u
    · rw [Array.toList_setIfInBounds, List.take_set, ht]

/-- Other memory's stores, and an iterator's step, leave it. -/
theorem own_below {w w' : World} {B : Nat} {E : TypeId} {sz : Nat} {v : Value} {n : Nat} {xs : List Value} (h : w.ownsRow B E sz v n xs) (hb : Below w.heap.size w w') : w'.ownsRow B E sz v n xs :=
  World.ownsRow.kept h (row := none) ⟨hb.os, hb.tape, hb.output, hb.size, fun i hi _ => hb.block i hi⟩ (by
    by_cases hn : v.ownBlock = none
    · exact .inl hn
    · exact .inr hn)
theorem own_iter {w : World} {B : Nat} {E : TypeId} {sz : Nat} {v : Value} {n : Nat} {xs : List Value} (h : w.ownsRow B E sz v n xs) {k : Nat} (hk : k < B) (s : ByteArray) (p : Nat) : (w.iterAt k s p).ownsRow B E sz v n xs := by
  obtain ⟨hl, h | ⟨g, cap, cur, hv, hb, hh, hn, hm, hs, ht⟩⟩ := h
  · exact ⟨hl, .inl h⟩
  · exact ⟨hl, .inr ⟨g, cap, cur, hv, hb, by rw [Lib.iterAt_other _ _ _ _ _ (by omega)]; exact hh, hn, hm, hs, ht⟩⟩

/-- The cells of tokens. -/
def encT (s : ByteArray) : List (Int × Nat × Nat) → List Value
  | [] => []
  | (k, a, b) :: r => .int .i64 k :: .string (s.extract a b) :: .int .i64 a :: encT s r
theorem encT_len (s : ByteArray) (l : List (Int × Nat × Nat)) : (encT s l).length = l.length * 3 := by
  induction l with
  | nil => rfl
  | cons x r ih => obtain ⟨k, a, b⟩ := x; simp [encT, ih]; omega
theorem encT_append (s : ByteArray) (l r : List (Int × Nat × Nat)) : encT s (l ++ r) = encT s l ++ encT s r := by
  induction l with
  | nil => rfl
  | cons x t ih => obtain ⟨k, a, b⟩ := x; simp [encT, ih]
theorem encT_at (s : ByteArray) (l : List (Int × Nat × Nat)) {j : Nat} {k : Int} {a b : Nat} (h : l[j]? = some (k, a, b)) : (encT s l)[3 * j]? = some (.int .i64 k) ∧ (encT s l)[3 * j + 1]? = some (.string (s.extract a b)) ∧ (encT s l)[3 * j + 2]? = some (.int .i64 a) := by
  induction l generalizing j with
  | nil => simp at h
  | cons x t ih =>
    obtain ⟨k', a', b'⟩ := x
    cases j with
    | zero => simp at h; obtain ⟨rfl, rfl, rfl⟩ := h; exact ⟨rfl, rfl, rfl⟩
    | succ j =>
      have := ih (by simpa using h)
      simpa [encT, Nat.mul_succ, Nat.add_right_comm] using this

theorem info_str : (Tryd.prog.info? 9).map (fun i => (i.zero.map (fun z => z.cells.size), i.size, i.bytes)) = some (some 1, 1, 16) := by kernel_rfl

end Go.Proofs.YtoejflnlkapkiaaDoor
/- Rows that a call makes and fills place by place. -/
namespace Go.Proofs.YtoejflnlkapkiaaDoor
open Go.ChangeShapes Go.WideShapes Go.ChangeAt Go.RowKit
set_option linter.unusedVariables false

/-- A row of n places, of which the first k hold those of ys, the others nought. -/
def fill (ys : List Int) (k n : Nat) : Array Value := ((ys.take k ++ List.replicate (n - k) 0).map (Value.int .u64)).toArray
theorem fill_zero (ys : List Int) (n : Nat) : fill ys 0 n = Array.replicate n (.int .u64 0) := by
  unfold fill; simp
theorem fill_step (ys : List Int) (k n : Nat) (hk : k < n) (hn : ys.length = n) : (fill ys k n).setIfInBounds k (.int .u64 (ys.getD k 0)) = fill ys (k + 1) n := by
  have hky : k < ys.length := by omega
  have e : ys.getD k 0 = ys[k] := by simp [List.getD, hky]
  unfold fill
  rw [e, List.setIfInBounds_toArray]
  congr 1
  apply List.ext_getElem?
  intro i
  rw [List.getElem?_set]
  simp only [List.getElem?_map, List.getElem?_append, List.length_take, List.length_map, List.length_append, List.length_replicate, List.getElem?_take, List.getElem?_replicate]
  by_cases h1 : k = i
  · subst h1
    have h2 : k < min (k + 1) ys.length := by omega
    have h3 : k < min k ys.length + (n - k) := by omega
    simp [h2, h3, List.getElem?_eq_getElem hky]
  · by_cases h2 : i < k
    · have h3 : i < min k ys.length := by omega
      have h4 : i < min (k + 1) ys.length := by omega
      have h5 : i < k + 1 := by omega
      simp [h1, h2, h3, h4, h5]
    · have h3 : ¬ i < min k ys.length := by omega
      have h4 : ¬ i < min (k + 1) ys.length := by omega
      have e1 : min k ys.length = k := by omega
      have e2 : min (k + 1) ys.length = k + 1 := by omega
      simp only [h1, h3, h4, if_false, e1, e2]
      have h8 : ¬ i < k + 1 := by omega
      by_cases h5 : i < n
      · have h6 : i - k < n - k := by omega
        have h7 : i - (k + 1) < n - (k + 1) := by omega
        simp [h2, h8, h6, h7]
      · have h6 : ¬ i - k < n - k := by omega
        have h7 : ¬ i - (k + 1) < n - (k + 1) := by omega
        simp [h2, h8, h6, h7]
theorem fill_full (ys : List Int) (n : Nat) (hn : ys.length = n) : fill ys n n = (ys.map (Value.int .u64)).toArray := by
  unfold fill; rw [← hn]; simp
theorem fill_at (ys : List Int) (k n i : Nat) (hk : k ≤ n) (hi : i < n) (hn : ys.length = n) : ∃ v, (fill ys k n)[i]? = some v := by
  have : i < (fill ys k n).size := by unfold fill; simp; omega
  exact ⟨_, Array.getElem?_eq_getElem this⟩

/-- Block B holds the numbers ys, and no more. -/
def RowAt (w : World) (B : Nat) (T : TypeId) (ys : List Int) : Prop := w.heap[B]? = some (.cells ((ys.map (Value.int .u64)).toArray) T (0, 0))
theorem RowAt.lt {w : World} {B : Nat} {T : TypeId} {ys : List Int} (h : RowAt w B T ys) : B < w.heap.size := by
  unfold RowAt at h
  by_cases hlt : B < w.heap.size
  · exact hlt
  · have : w.heap[B]? = none := by simp; omega
    rw [this] at h; simp at h
theorem RowAt.reads {w : World} {B : Nat} {T : TypeId} {ys : List Int} (h : RowAt w B T ys) : Reads .u64 w (some ⟨B, 0, none⟩) ys :=
  .inr ⟨B, 0, rfl, h.lt, fun i hi => by
    rw [cell_of_row w B (0 + i) _ _ _ h]
    simp [List.getD, hi]⟩
theorem RowAt.below {w w' : World} {B : Nat} {T : TypeId} {ys : List Int} (h : RowAt w B T ys) (hb : Below w.heap.size w w') : RowAt w' B T ys := by
  unfold RowAt; rw [hb.block B h.lt]; exact h
theorem RowAt.alloc {w : World} {B : Nat} {T : TypeId} {ys : List Int} (h : RowAt w B T ys) (o : Obj) : RowAt (w.alloc o) B T ys := by
  unfold RowAt; rw [Below.heap_alloc w o B h.lt]; exact h

theorem made_cells (v : Value) (n : Nat) : madeCells #[v] n = Array.replicate n v := by
  unfold madeCells
  apply Array.ext
  · simp
  · intro i h1 h2
    simp [Nat.mod_one]

theorem info_u64 : (Tryd.prog.info? 78).map (fun i => (i.zero, i.size, i.bytes)) = some (some (.int .u64 0), 1, 8) := by kernel_rfl
theorem make_u64 (n : Nat) (hn : n ≤ 35184372088832) (w : World) :
    (Instr.makeSlice 47 (.int .i64 (n : Int)) (.int .i64 (n : Int))).run Tryd.prog w = .ok (.slice (some ⟨w.heap.size, 0, none⟩) n n) (w.alloc (.cells (Array.replicate n (.int .u64 0)) 78)) := by
  obtain ⟨i, hi, hz, hs, hb⟩ := info_parts info_u64
  rw [run_make w 47 78 i (.int .u64 0) Tryd.underlying47 hi hz .i64 .i64 (n : Int) (n : Int) (by omega) (by omega) (by rw [hb]; omega) (by omega), hs, Int.toNat_natCast, Nat.mul_one]
  rw [show (Value.int .u64 0).cells = #[.int .u64 0] from rfl, made_cells]

/-- A row that is being filled: block B. -/
def Filling (w : World) (B : Nat) (T : TypeId) (ys : List Int) (k n : Nat) : Prop := w.heap[B]? = some (.cells (fill ys k n) T (0, 0))
theorem Filling.lt {w : World} {B : Nat} {T : TypeId} {ys : List Int} {k n : Nat} (h : Filling w B T ys k n) : B < w.heap.size := by
  unfold Filling at h
  by_cases hlt : B < w.heap.size
  · exact hlt
  · have : w.heap[B]? = none := by simp; omega
    rw [this] at h; simp at h
theorem Filling.below {w w' : World} {B : Nat} {T : TypeId} {ys : List Int} {k n : Nat} (h : Filling w B T ys k n) (hb : Below w.heap.size w w') : Filling w' B T ys k n := by
  unfold Filling; rw [hb.block B h.lt]; exact h
theorem Filling.start (w : World) (T : TypeId) (ys : List Int) (n : Nat) : Filling (w.alloc (.cells (Array.replicate n (.int .u64 0)) T)) w.heap.size T ys 0 n := by
  unfold Filling; rw [heap_alloc_new, fill_zero]
theorem Filling.cell {w : World} {B : Nat} {T : TypeId} {ys : List Int} {k n : Nat} (h : Filling w B T ys k n) (hk : k < n) (hn : ys.length = n) : ∃ v, w.cell? ⟨B, k, none⟩ = some v := by
  obtain ⟨v, hv⟩ := fill_at ys k n k (by omega) hk hn
  exact ⟨v, by rw [cell_of_row w B k _ _ _ h]; exact hv⟩
theorem Filling.free {w : World} {B : Nat} {T : TypeId} {ys : List Int} {k n : Nat} (h : Filling w B T ys k n) (j : Nat) : w.frozen? ⟨B, j, none⟩ = false := frozen_of_row w B j _ _ h
theorem Filling.step {w : World} {B : Nat} {T : TypeId} {ys : List Int} {k n : Nat} (h : Filling w B T ys k n) (hk : k < n) (hn : ys.length = n) {y : Int} (hy : ys.getD k 0 = y) : Filling (w.setCell ⟨B, k, none⟩ (.int .u64 y)) B T ys (k + 1) n := by
  unfold Filling
  rw [heap_setCell_same w B k _ T _ h, ← hy, fill_step ys k n hk hn]
theorem Filling.done {w : World} {B : Nat} {T : TypeId} {ys : List Int} {n : Nat} (h : Filling w B T ys n n) (hn : ys.length = n) : RowAt w B T ys := by
  unfold Filling at h; unfold RowAt; rw [h, fill_full ys n hn]

/-- A row of n places that is filled in whatever order: what is done holds ys. -/
def pfill (ys : List Int) (d : Nat → Bool) (n : Nat) : Array Value := ((List.range n).map fun j => Value.int .u64 (if d j then ys.getD j 0 else 0)).toArray
theorem pfill_none (ys : List Int) (d : Nat → Bool) (n : Nat) (h : ∀ j, j < n → d j = false) : pfill ys d n = Array.replicate n (.int .u64 0) := by
  unfold pfill
  apply Array.ext
  · simp
  · intro i h1 h2
    have hi : i < n := by simpa using h2
    simp [h i hi]
theorem pfill_all (ys : List Int) (d : Nat → Bool) (n : Nat) (hn : ys.length = n) (h : ∀ j, j < n → d j = true) : pfill ys d n = (ys.map (Value.int .u64)).toArray := by
  unfold pfill
  congr 1
  apply List.ext_getElem
  · simp [hn]
  · intro i h1 h2
    have hi : i < n := by simpa using h1
    have hi' : i < ys.length := by omega
    simp [h i hi, List.getD, hi']
theorem pfill_set (ys : List Int) (d d' : Nat → Bool) (n i : Nat) (h : ∀ j, j < n → d' j = (d j || j == i)) : (pfill ys d n).setIfInBounds i (.int .u64 (ys.getD i 0)) = pfill ys d' n := by
  unfold pfill
  rw [List.setIfInBounds_toArray]
  congr 1
  apply List.ext_getElem?
  intro j
  rw [List.getElem?_set]
  simp only [List.length_map, List.length_range, List.getElem?_map]
  by_cases hij : i = j
  · subst hij
    by_cases hi : i < n
    · simp [hi, h i hi]
    · simp [hi]
  · by_cases hj : j < n
    · have : (j == i) = false := by simp; omega
      simp [hij, hj, h j hj, this]
    · simp [hij, hj]
theorem pfill_at (ys : List Int) (d : Nat → Bool) (n i : Nat) (hi : i < n) : ∃ v, (pfill ys d n)[i]? = some v := by
  have : i < (pfill ys d n).size := by unfold pfill; simp; omega
  exact ⟨_, Array.getElem?_eq_getElem this⟩

/-- Block B is such a row. -/
def PF (w : World) (B : Nat) (T : TypeId) (ys : List Int) (d : Nat → Bool) (n : Nat) : Prop := w.heap[B]? = some (.cells (pfill ys d n) T (0, 0))
theorem PF.lt {w : World} {B : Nat} {T : TypeId} {ys : List Int} {d : Nat → Bool} {n : Nat} (h : PF w B T ys d n) : B < w.heap.size := by
  unfold PF at h
  by_cases hlt : B < w.heap.size
  · exact hlt
  · have : w.heap[B]? = none := by simp; omega
    rw [this] at h; simp at h
theorem PF.below {w w' : World} {B : Nat} {T : TypeId} {ys : List Int} {d : Nat → Bool} {n : Nat} (h : PF w B T ys d n) (hb : Below w.heap.size w w') : PF w' B T ys d n := by
  unfold PF; rw [hb.block B h.lt]; exact h
theorem PF.start (w : World) (T : TypeId) (ys : List Int) (d : Nat → Bool) (n : Nat) (h : ∀ j, j < n → d j = false) : PF (w.alloc (.cells (Array.replicate n (.int .u64 0)) T)) w.heap.size T ys d n := by
  unfold PF; rw [heap_alloc_new, pfill_none ys d n h]
theorem PF.cell {w : World} {B : Nat} {T : TypeId} {ys : List Int} {d : Nat → Bool} {n : Nat} (h : PF w B T ys d n) {i : Nat} (hi : i < n) : ∃ v, w.cell? ⟨B, i, none⟩ = some v := by
  obtain ⟨v, hv⟩ := pfill_at ys d n i hi
  exact ⟨v, by rw [cell_of_row w B i _ _ _ h]; exact hv⟩
theorem PF.free {w : World} {B : Nat} {T : TypeId} {ys : List Int} {d : Nat → Bool} {n : Nat} (h : PF w B T ys d n) (j : Nat) : w.frozen? ⟨B, j, none⟩ = false := frozen_of_row w B j _ _ h
theorem PF.step {w : World} {B : Nat} {T : TypeId} {ys : List Int} {d d' : Nat → Bool} {n i : Nat} (h : PF w B T ys d n) (hd : ∀ j, j < n → d' j = (d j || j == i)) {y : Int} (hy : ys.getD i 0 = y) : PF (w.setCell ⟨B, i, none⟩ (.int .u64 y)) B T ys d' n := by
  unfold PF
  rw [heap_setCell_same w B i _ T _ h, ← hy, pfill_set ys d d' n i hd]
theorem PF.done {w : World} {B : Nat} {T : TypeId} {ys : List Int} {d : Nat → Bool} {n : Nat} (h : PF w B T ys d n) (hn : ys.length = n) (hd : ∀ j, j < n → d j = true) : RowAt w B T ys := by
  unfold PF at h; unfold RowAt; rw [h, pfill_all ys d n hn hd]

end Go.Proofs.YtoejflnlkapkiaaDoor
/- Rows that grow by append. -/
namespace Go.Proofs.YtoejflnlkapkiaaDoor
open Go.ChangeShapes Go.WideShapes Go.ChangeAt Go.RowKit
set_option linter.unusedVariables false

/-- A slice value of the call's own that holds the numbers ys. -/
def Owns (w : World) (B : Nat) (E : TypeId) (k : IntKind) (v : Value) (ys : List Int) : Prop := w.ownsRow B E 1 v ys.length (ys.map (Value.int k))
theorem Owns.nil (w : World) (B : Nat) (E : TypeId) (k : IntKind) : Owns w B E k (.slice none 0 0) [] := World.ownsRow_nil w B E 1
theorem Owns.below {w w' : World} {B : Nat} {E : TypeId} {k : IntKind} {v : Value} {ys : List Int} (h : Owns w B E k v ys) (hb : Below w.heap.size w w') : Owns w' B E k v ys :=
  World.ownsRow.kept h (row := none) ⟨hb.os, hb.tape, hb.output, hb.size, fun i hi _ => hb.block i hi⟩ (by
    by_cases hn : v.ownBlock = none
    · exact .inl hn
    · exact .inr hn)
theorem Owns.alloc {w : World} {B : Nat} {E : TypeId} {k : IntKind} {v : Value} {ys : List Int} (h : Owns w B E k v ys) (o : Obj) : (w.alloc o).ownsRow B E 1 v ys.length (ys.map (Value.int k)) := World.ownsRow.alloc h o
theorem owns_snoc {w : World} {B : Nat} {E : TypeId} {k : IntKind} {v : Value} {ys : List Int} {y : Int} (h : w.ownsRow B E 1 v (ys.length + 1) (ys.map (Value.int k) ++ [.int k y])) : Owns w B E k v (ys ++ [y]) := by
  unfold Owns
  simpa using h
theorem Owns.shape {w : World} {B : Nat} {E : TypeId} {k : IntKind} {v : Value} {ys : List Int} (h : Owns w B E k v ys) : ∃ a c, v = .slice a ys.length c ∧ Reads k w a ys ∧ ys.length ≤ c ∧ c ≤ maxLen := by
  obtain ⟨hl, h | ⟨g, cap, cur, rfl, hb, hh, hn, hm, hs, ht⟩⟩ := h
  · obtain ⟨rfl, hn⟩ := h
    have : ys = [] := List.length_eq_zero_iff.1 hn
    subst this
    exact ⟨none, 0, rfl, .inl rfl, Nat.le_refl _, by unfold maxLen; omega⟩
  · refine ⟨_, _, rfl, .inr ⟨g, 0, rfl, ?_, fun i hi => ?_⟩, hn, hm⟩
    · by_cases hlt : g < w.heap.size
      · exact hlt
      · have : w.heap[g]? = none := by simp; omega
        rw [this] at hh; simp at hh
    · rw [cell_of_row w g (0 + i) _ _ _ hh]
      have : cur[0 + i]? = (ys.map (Value.int k))[i]? := by
        rw [← ht, List.getElem?_take]
        simp [hi]
      rw [this]
      simp [List.getD, hi]

theorem below_grow {w w1 w2 : World} {B : Nat} {E : TypeId} {k : IntKind} {v : Value} {ys : List Int} (h : Below B w w1) (ho : Owns w1 B E k v ys) (hB : B ≤ w1.heap.size) (o : Obj) (hg : (w1.alloc o).grownBy w2 v.ownBlock) : Below B w w2 :=
  (h.alloc hB o).grown hg (by simp; omega) (fun i hi => (World.ownsRow.lt ho i hi).1)

/-- The first k of ys. -/
def upto (ys : List Int) (k : Nat) : List Int := ys.take k
theorem upto_zero (ys : List Int) : upto ys 0 = [] := rfl
theorem upto_full (ys : List Int) (n : Nat) (h : ys.length = n) : upto ys n = ys := by unfold upto; rw [← h]; exact List.take_length
theorem upto_len (ys : List Int) (k : Nat) (h : k ≤ ys.length) : (upto ys k).length = k := by unfold upto; rw [List.length_take]; omega
theorem upto_snoc (ys : List Int) (k : Nat) (y : Int) (h : k < ys.length) (e : ys.getD k 0 = y) : upto ys k ++ [y] = upto ys (k + 1) := by
  unfold upto
  rw [List.take_succ_eq_append_getElem h, ← e]; simp [List.getD, h]

/-- One number more: 'append(l, y)'. -/
theorem append_one {ops : Array Oper} {rest : List Oper} {o : Oper} {a : Act} {Q : Exit → Act → World → Prop} {W : World} {T E : TypeId} {k : IntKind} {B : Nat} {v : Value} {ys : List Int} {y : Int}
    (hT : Tryd.prog.underlying T = some (.slice E)) (hI : (Tryd.prog.info? E).map (fun i => (i.zero, i.size, i.bytes)) = some (some (.int k 0), 1, 8)) (hgd : o.guard = none) (s x : Operand)
    (ho : o.op = .call { callee := .builtin .append, args := #[s, x], argTypes := #[T, T] }) (hs : a.eval s = v) (hown : Owns W B E k v ys) (hx : a.eval x = .slice (some ⟨W.heap.size, 0, none⟩) 1 1) (hB : B ≤ W.heap.size) (hlen : ys.length < 17592186044415)
    (h : ∀ v' w', Owns w' B E k v' (ys ++ [y]) → Below B W w' → wpList Tryd.prog ops Q rest (a.put o.dst v') w') : wpList Tryd.prog ops Q (o :: rest) a (W.alloc (.cells #[.int k y] E)) := by
  obtain ⟨i0, hi, hz0, hz1, hz2⟩ := info_parts hI
  refine wpList_append_own _ hgd s x T ho B E i0 (.int k 0) 1 8 hT hi hz0 hz1 hz2 rfl (by decide) v ys.length (ys.map (Value.int k)) hs (hown.alloc _) ⟨W.heap.size, 0, none⟩ 1 1 [.int k y] hx rfl ?_ ?_ ?_ ?_ ?_ ?_
  · intro j u hj
    match j, hj with
    | 0, hj => simp at hj; subst hj; simp [Addr.add, go_sem]
  · intro u hu; simp at hu; subst hu; rfl
  · unfold maxLen; omega
  · omega
  · simp; omega
  · intro v' w' h1 h2 _
    exact h v' w' (owns_snoc h1) (below_grow (Below.refl _ _) hown hB _ h2)

/-- An operation without a guard is wanted. -/
theorem step_plain {ops : Array Oper} {o : Oper} {a : Act} {w : World} {K : Act → World → Prop} {Q : Exit → Act → World → Prop} {E' : Prop} (hgd : o.guard = none) (h : o.wp Tryd.prog a w K Q) :
    if Region.wanted o (yielded ops a.tmps) = true then Oper.wp Tryd.prog o a w K Q else E' := by
  rw [if_pos (by simp [Region.wanted, hgd])]
  exact h

/-- The same at the operation, in whatever world. -/
theorem wp_append_one {o : Oper} {a : Act} {K : Act → World → Prop} {Q : Exit → Act → World → Prop} {W : World} {T E : TypeId} {k : IntKind} {B H : Nat} {v : Value} {ys : List Int} {y : Int}
    (hT : Tryd.prog.underlying T = some (.slice E)) (hI : (Tryd.prog.info? E).map (fun i => (i.zero, i.size, i.bytes)) = some (some (.int k 0), 1, 8)) (s x : Operand)
    (ho : o.op = .call { callee := .builtin .append, args := #[s, x], argTypes := #[T, T] }) (hs : a.eval s = v) (hown : Owns W B E k v ys) (hx : a.eval x = .slice (some ⟨H, 0, none⟩) 1 1) (hc : W.cell? ⟨H, 0, none⟩ = some (.int k y)) (hB : B ≤ W.heap.size) (hlen : ys.length < 17592186044415)
    (h : ∀ v' w', Owns w' B E k v' (ys ++ [y]) → Below B W w' → K (a.put o.dst v') w') : o.wp Tryd.prog a W K Q := by
  obtain ⟨i0, hi, hz0, hz1, hz2⟩ := info_parts hI
  refine wp_append_lies _ s x T ho B E i0 (.int k 0) 1 8 hT hi hz0 hz1 hz2 rfl (by decide) v ys.length (ys.map (Value.int k)) hs hown ⟨H, 0, none⟩ 1 1 [.int k y] hx rfl ?_ ?_ (by decide) ?_ ?_ hB _ rfl ?_
  · intro j u hj
    match j, hj with
    | 0, hj => simp at hj; subst hj; simpa [Addr.add] using hc
  · intro u hu; simp at hu; subst hu; rfl
  · unfold maxLen; omega
  · omega
  · intro g cap w' h1 h2 _ _
    exact h _ w' (owns_snoc h1) ((Below.refl _ _).grown h2 hB (fun i hi => (World.ownsRow.lt hown i hi).1))

/-- Two cells from below B, kept by whatever leaves all below B as it is. -/
theorem keepB {w0 w w' : World} {B : Nat} {p q : Addr} {u v : Value} (hp : p.block < B) (hq : q.block < B) (hS : w.cell? p = some u ∧ w.cell? q = some v ∧ Below B w0 w) (hb : Below B w w') :
    w'.cell? p = some u ∧ w'.cell? q = some v ∧ Below B w0 w' :=
  ⟨(hb.cell hp).trans hS.1, (hb.cell hq).trans hS.2.1, hS.2.2.trans hb⟩

end Go.Proofs.YtoejflnlkapkiaaDoor
/- Rows of ints that a call makes and fills place by place. -/
namespace Go.Proofs.YtoejflnlkapkiaaDoor
open Go.ChangeShapes Go.WideShapes Go.ChangeAt Go.RowKit
set_option linter.unusedVariables false

/-- A row of n places, of which the first k hold those of ys, the others nought. -/
def filli (ys : List Int) (k n : Nat) : Array Value := ((ys.take k ++ List.replicate (n - k) 0).map (Value.int .i64)).toArray
theorem filli_zero (ys : List Int) (n : Nat) : filli ys 0 n = Array.replicate n (.int .i64 0) := by
  unfold filli; simp
theorem filli_step (ys : List Int) (k n : Nat) (hk : k < n) (hn : ys.length = n) : (filli ys k n).setIfInBounds k (.int .i64 (ys.getD k 0)) = filli ys (k + 1) n := by
  have hky : k < ys.length := by omega
  have e : ys.getD k 0 = ys[k] := by simp [List.getD, hky]
  unfold filli
  rw [e, List.setIfInBounds_toArray]
  congr 1
  apply List.ext_getElem?
  intro i
  rw [List.getElem?_set]
  simp only [List.getElem?_map, List.getElem?_append, List.length_take, List.length_map, List.length_append, List.length_replicate, List.getElem?_take, List.getElem?_replicate]
  by_cases h1 : k = i
  · subst h1
    have h2 : k < min (k + 1) ys.length := by omega
    have h3 : k < min k ys.length + (n - k) := by omega
    simp [h2, h3, List.getElem?_eq_getElem hky]
  · by_cases h2 : i < k
    · have h3 : i < min k ys.length := by omega
      have h4 : i < min (k + 1) ys.length := by omega
      have h5 : i < k + 1 := by omega
      simp [h1, h2, h3, h4, h5]
    · have h3 : ¬ i < min k ys.length := by omega
      have h4 : ¬ i < min (k + 1) ys.length := by omega
      have e1 : min k ys.length = k := by omega
      have e2 : min (k + 1) ys.length = k + 1 := by omega
      simp only [h1, h3, h4, if_false, e1, e2]
      have h8 : ¬ i < k + 1 := by omega
      by_cases h5 : i < n
      · have h6 : i - k < n - k := by omega
        have h7 : i - (k + 1) < n - (k + 1) := by omega
        simp [h2, h8, h6, h7]
      · have h6 : ¬ i - k < n - k := by omega
        have h7 : ¬ i - (k + 1) < n - (k + 1) := by omega
        simp [h2, h8, h6, h7]
theorem filli_full (ys : List Int) (n : Nat) (hn : ys.length = n) : filli ys n n = (ys.map (Value.int .i64)).toArray := by
  unfold filli; rw [← hn]; simp
theorem filli_at (ys : List Int) (k n i : Nat) (hk : k ≤ n) (hi : i < n) (hn : ys.length = n) : ∃ v, (filli ys k n)[i]? = some v := by
  have : i < (filli ys k n).size := by unfold filli; simp; omega
  exact ⟨_, Array.getElem?_eq_getElem this⟩

/-- Block B holds the numbers ys, and no more. -/
def RowAtI (w : World) (B : Nat) (T : TypeId) (ys : List Int) : Prop := w.heap[B]? = some (.cells ((ys.map (Value.int .i64)).toArray) T (0, 0))
theorem RowAtI.lt {w : World} {B : Nat} {T : TypeId} {ys : List Int} (h : RowAtI w B T ys) : B < w.heap.size := by
  unfold RowAtI at h
  by_cases hlt : B < w.heap.size
  · exact hlt
  · have : w.heap[B]? = none := by simp; omega
    rw [this] at h; simp at h
theorem RowAtI.reads {w : World} {B : Nat} {T : TypeId} {ys : List Int} (h : RowAtI w B T ys) : Reads .i64 w (some ⟨B, 0, none⟩) ys :=
  .inr ⟨B, 0, rfl, h.lt, fun i hi => by
    rw [cell_of_row w B (0 + i) _ _ _ h]
    simp [List.getD, hi]⟩
theorem RowAtI.below {w w' : World} {B : Nat} {T : TypeId} {ys : List Int} (h : RowAtI w B T ys) (hb : Below w.heap.size w w') : RowAtI w' B T ys := by
  unfold RowAtI; rw [hb.block B h.lt]; exact h
theorem RowAtI.alloc {w : World} {B : Nat} {T : TypeId} {ys : List Int} (h : RowAtI w B T ys) (o : Obj) : RowAtI (w.alloc o) B T ys := by
  unfold RowAtI; rw [Below.heap_alloc w o B h.lt]; exact h

theorem made_cells_i (v : Value) (n : Nat) : madeCells #[v] n = Array.replicate n v := by
  unfold madeCells
  apply Array.ext
  · simp
  · intro i h1 h2
    simp [Nat.mod_one]

theorem info_i64 : (Tryd.prog.info? 3).map (fun i => (i.zero, i.size, i.bytes)) = some (some (.int .i64 0), 1, 8) := by kernel_rfl
theorem make_i64 (n : Nat) (hn : n ≤ 35184372088832) (w : World) :
    (Instr.makeSlice 23 (.int .i64 (n : Int)) (.int .i64 (n : Int))).run Tryd.prog w = .ok (.slice (some ⟨w.heap.size, 0, none⟩) n n) (w.alloc (.cells (Array.replicate n (.int .i64 0)) 3)) := by
  obtain ⟨i, hi, hz, hs, hb⟩ := info_parts info_i64
  rw [run_make w 23 3 i (.int .i64 0) Tryd.underlying23 hi hz .i64 .i64 (n : Int) (n : Int) (by omega) (by omega) (by rw [hb]; omega) (by omega), hs, Int.toNat_natCast, Nat.mul_one]
  rw [show (Value.int .i64 0).cells = #[.int .i64 0] from rfl, made_cells_i]

/-- A row that is being filled: block B. -/
def FillingI (w : World) (B : Nat) (T : TypeId) (ys : List Int) (k n : Nat) : Prop := w.heap[B]? = some (.cells (filli ys k n) T (0, 0))
theorem FillingI.lt {w : World} {B : Nat} {T : TypeId} {ys : List Int} {k n : Nat} (h : FillingI w B T ys k n) : B < w.heap.size := by
  unfold FillingI at h
  by_cases hlt : B < w.heap.size
  · exact hlt
  · have : w.heap[B]? = none := by simp; omega
    rw [this] at h; simp at h
theorem FillingI.below {w w' : World} {B : Nat} {T : TypeId} {ys : List Int} {k n : Nat} (h : FillingI w B T ys k n) (hb : Below w.heap.size w w') : FillingI w' B T ys k n := by
  unfold FillingI; rw [hb.block B h.lt]; exact h
theorem FillingI.start (w : World) (T : TypeId) (ys : List Int) (n : Nat) : FillingI (w.alloc (.cells (Array.replicate n (.int .i64 0)) T)) w.heap.size T ys 0 n := by
  unfold FillingI; rw [heap_alloc_new, filli_zero]
theorem FillingI.cell {w : World} {B : Nat} {T : TypeId} {ys : List Int} {k n : Nat} (h : FillingI w B T ys k n) (hk : k < n) (hn : ys.length = n) : ∃ v, w.cell? ⟨B, k, none⟩ = some v := by
  obtain ⟨v, hv⟩ := filli_at ys k n k (by omega) hk hn
  exact ⟨v, by rw [cell_of_row w B k _ _ _ h]; exact hv⟩
theorem FillingI.free {w : World} {B : Nat} {T : TypeId} {ys : List Int} {k n : Nat} (h : FillingI w B T ys k n) (j : Nat) : w.frozen? ⟨B, j, none⟩ = false := frozen_of_row w B j _ _ h
theorem FillingI.step {w : World} {B : Nat} {T : TypeId} {ys : List Int} {k n : Nat} (h : FillingI w B T ys k n) (hk : k < n) (hn : ys.length = n) {y : Int} (hy : ys.getD k 0 = y) : FillingI (w.setCell ⟨B, k, none⟩ (.int .i64 y)) B T ys (k + 1) n := by
  unfold FillingI
  rw [heap_setCell_same w B k _ T _ h, ← hy, filli_step ys k n hk hn]
theorem FillingI.done {w : World} {B : Nat} {T : TypeId} {ys : List Int} {n : Nat} (h : FillingI w B T ys n n) (hn : ys.length = n) : RowAtI w B T ys := by
  unfold FillingI at h; unfold RowAtI; rw [h, filli_full ys n hn]


end Go.Proofs.YtoejflnlkapkiaaDoor
/- 'append(nil, l...)' of ints; small laws of rows of ints. -/
namespace Go.Proofs.YtoejflnlkapkiaaDoor
open Go.ChangeShapes Go.WideShapes Go.ChangeAt Go.RowKit
set_option linter.unusedVariables false
theorem append_all {ops : Array Oper} {rest : List Oper} {o : Oper} {a : Act} {Q : Exit → Act → World → Prop} {W : World} {T E : TypeId} {k : IntKind} {B : Nat} {v : Value} {ys zs : List Int} {p : Option Addr} {m c : Nat}
    (hT : Tryd.prog.underlying T = some (.slice E)) (hI : (Tryd.prog.info? E).map (fun i => (i.zero, i.size, i.bytes)) = some (some (.int k 0), 1, 8)) (hgd : o.guard = none) (s x : Operand)
    (ho : o.op = .call { callee := .builtin .append, args := #[s, x], argTypes := #[T, T] }) (hs : a.eval s = v) (hown : Owns W B E k v ys) (hx : a.eval x = .slice p m c) (hm : zs.length = m) (hr : Reads k W p zs) (hB : B ≤ W.heap.size) (hlen : ys.length + m ≤ 17592186044415)
    (h : ∀ v' w', Owns w' B E k v' (ys ++ zs) → Below B W w' → wpList Tryd.prog ops Q rest (a.put o.dst v') w') : wpList Tryd.prog ops Q (o :: rest) a W := by
  obtain ⟨i0, hi, hz0, hz1, hz2⟩ := info_parts hI
  by_cases hne : 0 < m
  · rcases hr with hnil | ⟨b, off, rfl, hb, hcell⟩
    · rw [hnil] at hm; simp at hm; omega
    refine wpList_append_lies _ hgd s x T ho B E i0 (.int k 0) 1 8 hT hi hz0 hz1 hz2 rfl (by decide) v ys.length (ys.map (Value.int k)) hs hown ⟨b, off, none⟩ m c (zs.map (Value.int k)) hx (by simpa using hm) ?_ ?_ hne ?_ ?_ hB _ rfl ?_
    · intro j u hj
      have hj' : j < zs.length := by
        by_cases hlt : j < zs.length
        · exact hlt
        · have : (zs.map (Value.int k))[j]? = none := by simp; omega
          rw [this] at hj; cases hj
      have e : (zs.map (Value.int k))[j]? = some (.int k (zs.getD j 0)) := by simp [List.getD, hj']
      rw [e] at hj
      cases hj
      have hadd : (⟨b, off, none⟩ : Addr).add j = ⟨b, off + j, none⟩ := by unfold Addr.add; split <;> simp_all
      rw [hadd]
      exact hcell j hj'
    · intro u hu
      obtain ⟨z, _, rfl⟩ := List.mem_map.1 hu
      rfl
    · unfold maxLen; omega
    · omega
    · intro g cap w' h1 h2 _ _
      refine h _ w' ?_ ((Below.refl _ _).grown h2 hB (fun i hi => (World.ownsRow.lt hown i hi).1))
      unfold Owns
      rw [List.length_append, hm, List.map_append]
      exact h1
  · obtain rfl : m = 0 := by omega
    have hz : zs = [] := List.length_eq_zero_iff.1 hm
    subst hz
    rw [List.append_nil] at h
    obtain ⟨q, cap, hv, hr', hcap, _⟩ := hown.shape
    have hsrc : Src Tryd.prog i0.size T (.slice p 0 c) 0 [] W := by
      cases p with
      | none => exact Src.ofNil W hT c
      | some ad => exact Src.ofSlice W hT ad 0 c [] (by simp) (fun j u hj => by simp at hj) (fun u hu => by cases hu)
    have hrun := run_append_nothing W T T o.type E i0 hT hi q ys.length cap hcap _ hsrc
    refine wpList_plain hgd fun _ hK => ?_
    unfold Oper.wp execOp
    have h' := h v W hown (Below.refl _ _)
    rw [← hs] at h'
    simp only [ho, resolve, invoke, builtin, Sem.run_bind, Sem.run_pure, Result.andThen_ok, List.map_toArray, List.map_cons, List.map_nil, hx]
    rw [hs, hv, hrun]
    rw [hs, hv] at h'
    exact hK _ _ h'
end Go.Proofs.YtoejflnlkapkiaaDoor
