/- Put together by program (merge2.py): Lexad Lexbd Lexcd Lexdd Lexnd Sheld Lexed Shele. -/
import Derived.WalkSpells
import Derived.Laws.Strings2
import Derived.Laws.RangeAny
import Derived.Lib.OthersKept
import Derived.Deep.AppendLies
import Derived.Lib.Strings
import Derived.Lib.ItoaNum
import Derived.Shelf.Strconv.Itoa3
import Derived.Shelf.LaysM
import Derived.Lib.Split
import Derived.Shelf.Strings.OnBuilder
import Derived.Test.YtmbcfijhlpeddaaDoorD11
/- Package lex, the numbers: kinds of bytes; tokens byte by byte. -/
namespace Go.Proofs.YtmbcfijhlpeddaaDoor
open Go.ChangeShapes Go.WideShapes Go.ChangeAt Go.RowKit
set_option linter.unusedVariables false
set_option linter.unusedSimpArgs false

/-- The kind of a sign; 0: none. -/
def kd (x : Int) : Int := if 97 ≤ x ∧ x ≤ 122 then 1 else if 48 ≤ x ∧ x ≤ 57 then 2 else if x = 40 ∨ x = 41 ∨ x = 44 then 3 else 0
theorem kd_ascii {x : Int} (h : kd x ≠ 0) : 0 ≤ x ∧ x < 128 := by
  unfold kd at h
  split at h
  · omega
  · split at h
    · omega
    · split at h
      · omega
      · simp at h
theorem kd_high {x : Int} (h : 128 ≤ x) : kd x = 0 := by
  unfold kd
  rw [if_neg (by omega), if_neg (by omega), if_neg (by omega)]
theorem kd_le (x : Int) : 0 ≤ kd x ∧ kd x ≤ 3 := by
  unfold kd; split
  · omega
  · split
    · omega
    · split <;> omega

/-- The byte at a place. -/
def bt (s : ByteArray) (i : Nat) : Nat := (s.get! i).toNat
theorem bt_eq (s : ByteArray) (i : Nat) (h : i < s.size) : (s[i]'h).toNat = bt s i := by
  rw [bt, show s.get! i = s.get! (i + 0) from rfl, get_at s i h]
theorem bt_lt (s : ByteArray) (i : Nat) : bt s i < 256 := (s.get! i).toNat_lt

/-- What came of the bytes so far: tokens (kind, from, to), none where a sign is none. -/
def tk (s : ByteArray) : Nat → Option (List (Int × Nat × Nat))
  | 0 => some []
  | i + 1 => match tk s i with
    | none => none
    | some l => if kd (bt s i) = 0 then none else match l.getLast? with
      | some (k, a, b) => if kd (bt s i) ≠ 3 ∧ k = kd (bt s i) then some (l.dropLast ++ [(k, a, i + 1)]) else some (l ++ [(kd (bt s i), i, i + 1)])
      | none => some (l ++ [(kd (bt s i), i, i + 1)])
theorem tk_none {s : ByteArray} {i j : Nat} (h : tk s i = none) (hij : i ≤ j) : tk s j = none := by
  induction j with
  | zero => obtain rfl : i = 0 := by omega
            exact h
  | succ j ih =>
    by_cases e : i = j + 1
    · rw [← e]; exact h
    · simp [tk, ih (by omega)]
theorem tk_stop {s : ByteArray} {i j : Nat} (h : kd (bt s i) = 0) (hij : i < j) : tk s j = none := by
  refine tk_none (i := i + 1) ?_ hij
  simp only [tk]
  cases tk s i with
  | none => rfl
  | some l => simp [h]

end Go.Proofs.YtmbcfijhlpeddaaDoor
/- Rows of whatever elements that grow by append: their cells, stores in place; rows of tokens and of texts. -/
namespace Go.Proofs.YtmbcfijhlpeddaaDoor
open Go.ChangeShapes Go.WideShapes Go.ChangeAt Go.RowKit
set_option linter.unusedVariables false
set_option linter.unusedSimpArgs false

/-- One element more. -/
theorem append_g {ops : Array Oper} {rest : List Oper} {o : Oper} {a : Act} {Q : Exit → Act → World → Prop} {W : World} {T E : TypeId} {sz bys B : Nat} {v : Value} {n : Nat} {xs news : List Value} (hT : Tryd.prog.underlying T = some (.slice E))
    (hI : (Tryd.prog.info? E).map (fun i => (i.zero.map (fun z => z.cells.size), i.size, i.bytes)) = some (some sz, sz, bys)) (hsz : 0 < sz) (hby : bys ≤ 64) (hgd : o.guard = none) (s x : Operand)
    (ho : o.op = .call { callee := .builtin .append, args := #[s, x], argTypes := #[T, T] }) (hs : a.eval s = v) (hown : W.ownsRow B E sz v n xs) (hx : a.eval x = .slice (some ⟨W.heap.size, 0, none⟩) 1 1) (hB : B ≤ W.heap.size) (hn : n < 100000)
    (hl : news.length = sz) (h1 : ∀ u ∈ news, u.oneCell' = true)
    (h : ∀ v' w', w'.ownsRow B E sz v' (n + 1) (xs ++ news) → Below B W w' → wpList Tryd.prog ops Q rest (a.put o.dst v') w') : wpList Tryd.prog ops Q (o :: rest) a (W.alloc (.cells news.toArray E)) := by
  obtain ⟨i0, hi⟩ : ∃ i, Tryd.prog.info? E = some i := by
    cases h0 : Tryd.prog.info? E with
    | none => rw [h0] at hI; cases hI
    | some i => exact ⟨i, rfl⟩
  rw [hi] at hI
  simp only [Option.map_some, Option.some.injEq, Prod.mk.injEq] at hI
  obtain ⟨hz, hsz2, hby2⟩ := hI
  obtain ⟨z, hz1, hz2⟩ : ∃ z, i0.zero = some z ∧ z.cells.size = sz := by
    cases h0 : i0.zero with
    | none => rw [h0] at hz; cases hz
    | some z => rw [h0] at hz; simp at hz; exact ⟨z, rfl, hz⟩
  refine wpList_append_lies _ hgd s x T ho B E i0 z sz bys hT hi hz1 hsz2 hby2 hz2 hsz v n xs hs (World.ownsRow.alloc hown _) ⟨W.heap.size, 0, none⟩ 1 1 news hx (by omega) ?_ h1 (by decide) ?_ ?_ (by simp; omega) _ rfl ?_
  · intro j u hj
    exact World.news_of_block (heap_alloc_new W (.cells news.toArray E)) j u (by simpa using hj)
  · unfold maxLen; omega
  · have : (n + 1) * bys ≤ 100000 * 64 := Nat.mul_le_mul (by omega) hby
    omega
  · intro g cap w' h2 h3 _ _
    exact h _ w' h2 (((Below.refl _ _).alloc hB _).grown h3 (by simp; omega) (fun i hi => (World.ownsRow.lt hown i hi).1))

/-- What an own row is. -/
theorem own_form {w : World} {B : Nat} {E : TypeId} {sz : Nat} {v : Value} {n : Nat} {xs : List Value} (h : w.ownsRow B E sz v n xs) :
    (v = .slice none 0 0 ∧ n = 0 ∧ xs = []) ∨ ∃ g c, v = .slice (some ⟨g, 0, none⟩) n c ∧ B ≤ g ∧ g < w.heap.size ∧ n ≤ c ∧ c ≤ maxLen ∧ (∀ i, i < n * sz → ∃ u, xs[i]? = some u ∧ w.cell? ⟨g, i, none⟩ = some u ∧ w.frozen? ⟨g, i, none⟩ = false) := by
  obtain ⟨hl, h | ⟨g, cap, cur, rfl, hb, hh, hn, hm, hs, ht⟩⟩ := h
  · obtain ⟨rfl, rfl⟩ := h
    exact .inl ⟨rfl, rfl, List.length_eq_zero_iff.1 (by omega)⟩
  · refine .inr ⟨g, cap, rfl, hb, ?_, hn, hm, fun i hi => ?_⟩
    · by_cases hlt : g < w.heap.size
      · exact hlt
      · have : w.heap[g]? = none := by simp; omega
        rw [this] at hh; simp at hh
    · have h2 : i < xs.length := by omega
      refine ⟨xs[i], by simp [h2], ?_, frozen_of_row w g i _ _ hh⟩
      rw [cell_of_row w g i _ _ _ hh]
      have : cur[i]? = xs[i]? := by
        rw [← ht, List.getElem?_take, if_pos hi]
        simp
      rw [this]
      simp [h2]

theorem row_setC {w : World} {g o : Nat} {cs : Array Value} {T : TypeId} {fr : Nat × Nat} (h : w.heap[g]? = some (.cells cs T fr)) (v : Value) : (w.setCell ⟨g, o, none⟩ v).heap[g]? = some (.cells (cs.setIfInBounds o v) T fr) := by
  simp [World.setCell, Array.getElem?_modify, h]
/-- A store into one of its cells. -/
theorem own_set {w : World} {B : Nat} {E : TypeId} {sz : Nat} {g c n : Nat} {xs : List Value} (h : w.ownsRow B E sz (.slice (some ⟨g, 0, none⟩) n c) n xs) (i : Nat) (u : Value) : (w.setCell ⟨g, i, none⟩ u).ownsRow B E sz (.slice (some ⟨g, 0, none⟩) n c) n (xs.set i u) := by
  obtain ⟨hl, h | ⟨g', cap, cur, hv, hb, hh, hn, hm, hs, ht⟩⟩ := h
  · obtain ⟨h, _⟩ := h; cases h
  · simp only [Value.slice.injEq, Option.some.injEq, Addr.mk.injEq] at hv
    obtain ⟨⟨rfl, -, -⟩, -, rfl⟩ := hv
    refine ⟨by simpa using hl, .inr ⟨g, c, cur.setIfInBounds i u, rfl, hb, ?_, hn, hm, by simpa using hs, ?_⟩⟩
    · exact row_setC hh u
    · rw [Array.toList_setIfInBounds, List.take_set, ht]

/-- Other memory's stores, and an iterator's step, leave it. -/
theorem own_below {w w' : World} {B : Nat} {E : TypeId} {sz : Nat} {v : Value} {n : Nat} {xs : List Value} (h : w.ownsRow B E sz v n xs) (hb : Below w.heap.size w w') : w'.ownsRow B E sz v n xs :=
  World.ownsRow.kept h (row := none) ⟨hb.os, hb.tape, hb.output, hb.size, fun i hi _ => hb.block i hi⟩ (by
    by_cases hn : v.ownBlock = none
    · exact .inl hn
    · exact .inr hn)
theorem own_iter {w : World} {B : Nat} {E : TypeId} {sz : Nat} {v : Value} {n : Nat} {xs : List Value} (h : w.ownsRow B E sz v n xs) {k : Nat} (hk : k < B) (s : ByteArray) (p : Nat) : (w.iterAt k s p).ownsRow B E sz v n xs := by
  obtain ⟨hl, h | ⟨g, cap, cur, hv, hb, hh, hn, hm, hs, ht⟩⟩ := h
  · exact ⟨hl, .inl h⟩
  · exact ⟨hl, .inr ⟨g, cap, cur, hv, hb, by rw [Lib.iterAt_other _ _ _ _ _ (by omega)]; exact hh, hn, hm, hs, ht⟩⟩

/-- The cells of tokens. -/
def encT (s : ByteArray) : List (Int × Nat × Nat) → List Value
  | [] => []
  | (k, a, b) :: r => .int .i64 k :: .string (s.extract a b) :: .int .i64 a :: encT s r
theorem encT_len (s : ByteArray) (l : List (Int × Nat × Nat)) : (encT s l).length = l.length * 3 := by
  induction l with
  | nil => rfl
  | cons x r ih => obtain ⟨k, a, b⟩ := x; simp [encT, ih]; omega
theorem encT_append (s : ByteArray) (l r : List (Int × Nat × Nat)) : encT s (l ++ r) = encT s l ++ encT s r := by
  induction l with
  | nil => rfl
  | cons x t ih => obtain ⟨k, a, b⟩ := x; simp [encT, ih]
theorem encT_at (s : ByteArray) (l : List (Int × Nat × Nat)) {j : Nat} {k : Int} {a b : Nat} (h : l[j]? = some (k, a, b)) : (encT s l)[3 * j]? = some (.int .i64 k) ∧ (encT s l)[3 * j + 1]? = some (.string (s.extract a b)) ∧ (encT s l)[3 * j + 2]? = some (.int .i64 a) := by
  induction l generalizing j with
  | nil => simp at h
  | cons x t ih =>
    obtain ⟨k', a', b'⟩ := x
    cases j with
    | zero => simp at h; obtain ⟨rfl, rfl, rfl⟩ := h; exact ⟨rfl, rfl, rfl⟩
    | succ j =>
      have := ih (by simpa using h)
      simpa [encT, Nat.mul_succ, Nat.add_right_comm] using this

theorem info_str : (Tryd.prog.info? 9).map (fun i => (i.zero.map (fun z => z.cells.size), i.size, i.bytes)) = some (some 1, 1, 16) := by kernel_rfl

end Go.Proofs.YtmbcfijhlpeddaaDoor
/- lex.Tokens: byte by byte. -/
namespace Go.Proofs.YtmbcfijhlpeddaaDoor
open Go.ChangeShapes Go.WideShapes Go.ChangeAt Go.RowKit
set_option linter.unusedVariables false
set_option linter.unusedSimpArgs false

theorem tk_len {s : ByteArray} : ∀ {i : Nat} {l : List (Int × Nat × Nat)}, tk s i = some l → l.length ≤ i ∧ ∀ k a b, l.getLast? = some (k, a, b) → a < i ∧ b = i ∧ k = kd (bt s (i - 1)) ∧ k ≠ 0 := by
  intro i
  induction i with
  | zero => intro l h; simp [tk] at h; subst h; simp
  | succ i ih =>
    intro l h
    simp only [tk] at h
    cases hp : tk s i with
    | none => simp [hp] at h
    | some m =>
      simp only [hp] at h
      by_cases h0 : kd (bt s i) = 0
      · simp [h0] at h
      · simp only [h0, if_false] at h
        have hm := ih hp
        rcases hl : m.getLast? with _ | ⟨k, a, b⟩
        · simp only [hl, Option.some.injEq] at h
          subst h
          refine ⟨by simp; omega, fun k a b h => ?_⟩
          rw [List.getLast?_concat] at h
          simp only [Option.some.injEq, Prod.mk.injEq] at h
          obtain ⟨rfl, rfl, rfl⟩ := h
          exact ⟨by omega, rfl, rfl, h0⟩
        · simp only [hl] at h
          have hml := hm.2 k a b hl
          have hne : m ≠ [] := by intro e; simp [e] at hl
          split at h
          · rename_i hc
            simp only [Option.some.injEq] at h; subst h
            have : 0 < m.length := List.length_pos_iff.2 hne
            refine ⟨by simp; omega, fun k' a' b' h => ?_⟩
            rw [List.getLast?_concat] at h
            simp only [Option.some.injEq, Prod.mk.injEq] at h
            obtain ⟨rfl, rfl, rfl⟩ := h
            exact ⟨by omega, rfl, hc.2, hml.2.2.2⟩
          · simp only [Option.some.injEq] at h; subst h
            refine ⟨by simp; omega, fun k' a' b' h => ?_⟩
            rw [List.getLast?_concat] at h
            simp only [Option.some.injEq, Prod.mk.injEq] at h
            obtain ⟨rfl, rfl, rfl⟩ := h
            exact ⟨by omega, rfl, rfl, h0⟩

theorem encT_set (s : ByteArray) (m : List (Int × Nat × Nat)) (k : Int) (a b b' : Nat) : (encT s (m ++ [(k, a, b)])).set (m.length * 3 + 1) (.string (s.extract a b')) = encT s (m ++ [(k, a, b')]) := by
  rw [encT_append, encT_append, List.set_append_right _ _ (by rw [encT_len]; omega), encT_len]
  simp [encT]
theorem iterPos_of {w : World} {k p : Nat} {s : ByteArray} (h : w.heap[k]? = some (.stringIter s p)) : w.iterPos k = p := by
  unfold World.iterPos; rw [h]

end Go.Proofs.YtmbcfijhlpeddaaDoor
/- Reference 22's Tokens: one run behind the other. -/
namespace Go.Proofs.YtmbcfijhlpeddaaDoor
open Go.ChangeShapes Go.WideShapes Go.ChangeAt Go.RowKit
set_option linter.unusedVariables false
set_option linter.unusedSimpArgs false

theorem idx_at (s : ByteArray) (i : Nat) (h : i < s.size) (wx : World) : (Instr.index 9 (.string s) (.int .i64 (i : Int))).run Tryd.prog wx = .ok (.int .u8 (bt s i)) wx := by
  rw [run_index_string wx _ s .i64 i Tryd.underlying9, dif_pos ⟨by omega, by omega⟩]
  simp [bt_eq]
theorem sub_at (s : ByteArray) (a b : Nat) (h1 : a ≤ b) (h2 : b ≤ s.size) (wx : World) : (Instr.slice 9 (.string s) (some (.int .i64 (a : Int))) (some (.int .i64 (b : Int))) none).run Tryd.prog wx = .ok (.string (s.extract a b)) wx := by
  have := run_slice_string (P := Tryd.prog) wx 9 s .i64 .i64 (a : Int) (b : Int) Tryd.underlying9 (by omega) (by omega) (by omega)
  simpa using this

theorem tk_push {s : ByteArray} {i : Nat} {l : List (Int × Nat × Nat)} (h : tk s i = some l) (h0 : kd (bt s i) ≠ 0) (hb : ∀ k a b, l.getLast? = some (k, a, b) → kd (bt s i) = 3 ∨ k ≠ kd (bt s i)) : tk s (i + 1) = some (l ++ [(kd (bt s i), i, i + 1)]) := by
  simp only [tk, h, h0, if_false]
  rcases hl : l.getLast? with _ | ⟨k, a, b⟩
  · rfl
  · simp only
    rw [if_neg (by have := hb k a b hl; intro e; rcases this with h | h
                   · exact e.1 h
                   · exact h e.2)]
theorem tk_more {s : ByteArray} {i a : Nat} {k : Int} {l : List (Int × Nat × Nat)} (h : tk s i = some (l ++ [(k, a, i)])) (h0 : k ≠ 0) (h3 : k < 3) (hk : kd (bt s i) = k) : tk s (i + 1) = some (l ++ [(k, a, i + 1)]) := by
  simp only [tk, h, hk, h0, if_false, List.getLast?_concat]
  rw [if_pos (by constructor <;> first | omega | trivial)]
  simp

end Go.Proofs.YtmbcfijhlpeddaaDoor
/- lex.Num and the reference's; digits as numbers. -/
namespace Go.Proofs.YtmbcfijhlpeddaaDoor
open Go.ChangeShapes Go.WideShapes Go.ChangeAt Go.RowKit
set_option linter.unusedVariables false
set_option linter.unusedSimpArgs false

theorem bt_list (s : ByteArray) (i : Nat) (h : i < s.size) : s.data.toList[i]? = some (s[i]'h) ∧ bt s i = (s[i]'h).toNat := ⟨by simp [ByteArray.getElem_eq_getElem_data, h], (bt_eq s i h).symm⟩
/-- The number of digits. -/
def vlL (l : List UInt8) : Nat := l.foldl (fun a b => a * 10 + (b.toNat - 48)) 0
theorem vlL_snoc (l : List UInt8) (b : UInt8) : vlL (l ++ [b]) = vlL l * 10 + (b.toNat - 48) := by unfold vlL; rw [List.foldl_append]; rfl
def vl (s : ByteArray) (i : Nat) : Nat := vlL (s.data.toList.take i)
theorem vl_zero (s : ByteArray) : vl s 0 = 0 := rfl
theorem vl_succ (s : ByteArray) (i : Nat) (h : i < s.size) : vl s (i + 1) = vl s i * 10 + (bt s i - 48) := by
  unfold vl
  have h' : i < s.data.toList.length := by rw [← Lib.size_eq]; exact h
  rw [List.take_succ_eq_append_getElem h', vlL_snoc, (bt_list s i h).2]
  simp [ByteArray.getElem_eq_getElem_data]
def Dg (s : ByteArray) (i : Nat) : Prop := ∀ j, j < i → 48 ≤ bt s j ∧ bt s j ≤ 57
theorem vl_lt {s : ByteArray} : ∀ {i : Nat}, i ≤ s.size → Dg s i → vl s i < 10 ^ i
  | 0, _, _ => by rw [vl_zero]; decide
  | i + 1, hi, hd => by
    have h1 := vl_lt (s := s) (i := i) (by omega) (fun j hj => hd j (by omega))
    have h2 := hd i (by omega)
    rw [vl_succ s i (by omega), Nat.pow_succ]
    omega
theorem vl_small {s : ByteArray} {i : Nat} (hi : i ≤ s.size) (h9 : s.size ≤ 9) (hd : Dg s i) : vl s i < 1000000000 :=
  Nat.lt_of_lt_of_le (vl_lt hi hd) (by
    have : 10 ^ i ≤ 10 ^ 9 := Nat.pow_le_pow_right (by decide) (by omega)
    simpa using this)
/-- A number's text. -/
def IsN (s : ByteArray) : Prop := (1 ≤ s.size ∧ s.size ≤ 9 ∧ ¬ (bt s 0 = 48 ∧ 1 < s.size)) ∧ Dg s s.size

theorem idx_0 (s : ByteArray) (h : 0 < s.size) (wx : World) : (Instr.index 9 (.string s) (.int .i64 0)).run Tryd.prog wx = .ok (.int .u8 (bt s 0)) wx := idx_at s 0 h wx

/-- The four ways past the head of Num. -/
theorem heads (s : ByteArray) : s.size = 0 ∨ 9 < s.size ∨ (1 ≤ s.size ∧ s.size ≤ 9 ∧ bt s 0 = 48 ∧ 1 < s.size) ∨ (1 ≤ s.size ∧ s.size ≤ 9 ∧ ¬ (bt s 0 = 48 ∧ 1 < s.size)) := by
  by_cases h1 : s.size = 0
  · exact .inl h1
  · by_cases h2 : 9 < s.size
    · exact .inr (.inl h2)
    · by_cases h3 : bt s 0 = 48 ∧ 1 < s.size
      · exact .inr (.inr (.inl ⟨by omega, by omega, h3⟩))
      · exact .inr (.inr (.inr ⟨by omega, by omega, h3⟩))

end Go.Proofs.YtmbcfijhlpeddaaDoor
/- The library's contracts at this program (this seat alone: its numbers; written by gensheld.py). -/
namespace Go.Proofs.YtmbcfijhlpeddaaDoor
open Go.Shelf Go.ChangeShapes Go.WideShapes Go.ChangeAt Go.RowKit
def laysM171_ren : Go.Shelf.Ren := ⟨fun | 171 => 29 | 243 => 41 | 246 => 50 | 283 => 56 | 284 => 57 | 285 => 58 | 286 => 59 | 129 => 63 | 317 => 62 | 318 => 64 | 319 => 65 | 320 => 66 | 337 => 72 | 338 => 73 | n => n, fun | 3 => 3 | 9 => 9 | 2 => 2 | 4 => 4 | 171 => 99 | 0 => 0 | 53 => 87 | 37 => 61 | 5 => 5 | 173 => 102 | 212 => 106 | 51 => 107 | 20 => 20 | 213 => 108 | 46 => 96 | 232 => 117 | 233 => 118 | n => n, fun | 17 => 1 | 18 => 2 | 19 => 3 | n => n⟩
theorem laysM171 : Go.Proofs.LaysM.n171 Tryd.prog laysM171_ren := {
  mixed := by kernel_rfl
  f129 := Tryd.func63.trans (congrArg some (by kernel_rfl))
  f171 := Tryd.func29.trans (congrArg some (by kernel_rfl))
  f243 := Tryd.func41.trans (congrArg some (by kernel_rfl))
  f246 := Tryd.func50.trans (congrArg some (by kernel_rfl))
  f283 := Tryd.func56.trans (congrArg some (by kernel_rfl))
  f284 := Tryd.func57.trans (congrArg some (by kernel_rfl))
  f285 := Tryd.func58.trans (congrArg some (by kernel_rfl))
  f286 := Tryd.func59.trans (congrArg some (by kernel_rfl))
  f317 := Tryd.func62.trans (congrArg some (by kernel_rfl))
  f318 := Tryd.func64.trans (congrArg some (by kernel_rfl))
  f319 := Tryd.func65.trans (congrArg some (by kernel_rfl))
  f320 := Tryd.func66.trans (congrArg some (by kernel_rfl))
  f337 := Tryd.func72.trans (congrArg some (by kernel_rfl))
  f338 := Tryd.func73.trans (congrArg some (by kernel_rfl))
  t0 := Tryd.underlying0
  a0 := Tryd.isAgg0
  z0 := Tryd.sizeOf0
  v0 := Tryd.zeroValue0
  t2 := Tryd.underlying2
  a2 := Tryd.isAgg2
  z2 := Tryd.sizeOf2
  v2 := Tryd.zeroValue2
  t3 := Tryd.underlying3
  a3 := Tryd.isAgg3
  z3 := Tryd.sizeOf3
  v3 := Tryd.zeroValue3
  t4 := Tryd.underlying4
  a4 := Tryd.isAgg4
  z4 := Tryd.sizeOf4
  v4 := Tryd.zeroValue4
  t5 := Tryd.underlying5
  a5 := Tryd.isAgg5
  z5 := Tryd.sizeOf5
  v5 := Tryd.zeroValue5
  t9 := Tryd.underlying9
  a9 := Tryd.isAgg9
  z9 := Tryd.sizeOf9
  v9 := Tryd.zeroValue9
  t20 := Tryd.underlying20
  a20 := Tryd.isAgg20
  z20 := Tryd.sizeOf20
  v20 := Tryd.zeroValue20
  t37 := Tryd.underlying61
  a37 := Tryd.isAgg61
  z37 := Tryd.sizeOf61
  v37 := Tryd.zeroValue61
  t46 := Tryd.underlying96
  a46 := Tryd.isAgg96
  z46 := Tryd.sizeOf96
  v46 := Tryd.zeroValue96
  t51 := Tryd.underlying107
  a51 := Tryd.isAgg107
  z51 := Tryd.sizeOf107
  v51 := Tryd.zeroValue107
  t53 := Tryd.underlying87
  a53 := Tryd.isAgg87
  z53 := Tryd.sizeOf87
  v53 := Tryd.zeroValue87
  t171 := Tryd.underlying99
  a171 := Tryd.isAgg99
  z171 := Tryd.sizeOf99
  v171 := Tryd.zeroValue99
  t173 := Tryd.underlying102
  a173 := Tryd.isAgg102
  z173 := Tryd.sizeOf102
  v173 := Tryd.zeroValue102
  t212 := Tryd.underlying106
  a212 := Tryd.isAgg106
  z212 := Tryd.sizeOf106
  v212 := Tryd.zeroValue106
  t213 := Tryd.underlying108
  a213 := Tryd.isAgg108
  z213 := Tryd.sizeOf108
  t232 := Tryd.underlying117
  a232 := Tryd.isAgg117
  z232 := Tryd.sizeOf117
  v232 := Tryd.zeroValue117
  t233 := Tryd.underlying118
  a233 := Tryd.isAgg118
  z233 := Tryd.sizeOf118
  v233 := Tryd.zeroValue118
  g17 := by kernel_rfl
  g18 := by kernel_rfl
  g19 := by kernel_rfl
  i0 := by kernel_rfl
  i2 := by kernel_rfl
  i3 := by kernel_rfl
  i4 := by kernel_rfl
  i5 := by kernel_rfl
  i9 := by kernel_rfl
  i20 := by kernel_rfl
  i37 := by kernel_rfl
  i46 := by kernel_rfl
  i51 := by kernel_rfl
  i53 := by kernel_rfl
  i171 := by kernel_rfl
  i173 := by kernel_rfl
  i212 := by kernel_rfl
  i232 := by kernel_rfl
  i233 := by kernel_rfl
  m17 := by kernel_rfl
  m18 := by kernel_rfl
  m19 := by kernel_rfl }
open Go.RowKit Go.Sort Go.Lib in
theorem c_strconv_Itoa (n : Int) (h0 : -9223372036854775808 ≤ n) (h1 : n ≤ 9223372036854775807) (w : World) (htab : Lib.TabIs Tryd.prog w "internal/strconv.uint64pow10" .u64 Lib.pow10Tab) :
    Calls Tryd.prog 29 #[.int .i64 n] w fun e w' => e = .returned (.string ⟨(Lib.itoa n).toArray⟩) ∧ ∃ k os, w' = grow (w.drewN k) os := Any.strconv_Itoa laysM171 n h0 h1 w htab
end Go.Proofs.YtmbcfijhlpeddaaDoor
/- Words of a line, in numbers: cut at blanks. -/
namespace Go.Proofs.YtmbcfijhlpeddaaDoor
open Go.ChangeShapes Go.WideShapes Go.ChangeAt Go.RowKit
set_option linter.unusedVariables false
set_option linter.unusedSimpArgs false

/-- Cut at blanks; cur: what stands of the first piece already. -/
def splA (cur : List UInt8) : List UInt8 → List (List UInt8)
  | [] => [cur]
  | b :: l => if b = 32 then cur :: splA [] l else splA (cur ++ [b]) l
def hcons (p : List UInt8) : List (List UInt8) → List (List UInt8)
  | [] => []
  | x :: r => (p ++ x) :: r
theorem splA_head (l : List UInt8) : ∀ p cur, splA (p ++ cur) l = hcons p (splA cur l) := by
  induction l with
  | nil => intro p cur; rfl
  | cons b l ih =>
    intro p cur
    unfold splA
    split
    · rfl
    · rw [List.append_assoc]; exact ih _ _
theorem index_one (b : UInt8) (l : List UInt8) : Lib.index (b :: l) [32] = if b = 32 then 0 else if Lib.index l [32] = -1 then -1 else Lib.index l [32] + 1 := by
  rw [Lib.index]
  by_cases h : b = 32
  · subst h; simp [List.isPrefixOf]
  · have : ¬ (32 : UInt8) = b := fun e => h e.symm
    simp [List.isPrefixOf, h, this]
theorem splitK_head (b : UInt8) (hb : b ≠ 32) (l : List UInt8) (k : Nat) : Lib.splitK [32] 0 k (b :: l) = hcons [b] (Lib.splitK [32] 0 k l) := by
  cases k with
  | zero => rfl
  | succ k =>
    unfold Lib.splitK
    rw [index_one, if_neg hb]
    by_cases h : Lib.index l [32] = -1
    · simp [h, hcons]
    · have hge := Lib.index_ge l [32]
      obtain ⟨i, hi⟩ : ∃ i : Nat, Lib.index l [32] = i := ⟨(Lib.index l [32]).toNat, by omega⟩
      rw [if_neg h, hi]
      have e1 : ¬ (((i : Int) + 1 == -1) = true) := by rw [beq_iff_eq]; omega
      have e2 : ¬ (((i : Int) == -1) = true) := by rw [beq_iff_eq]; omega
      rw [if_neg e1, if_neg e2]
      have e3 : ((i : Int) + 1).toNat = i + 1 := by omega
      simp [e3, hcons]
theorem count_one (l : List UInt8) : Lib.count l [32] = l.count 32 := by
  induction l with
  | nil => rfl
  | cons b l ih =>
    by_cases hb : b = 32
    · subst hb
      rw [List.count_cons_self, Lib.count_hit (i := 0) (by simp) (by rw [index_one, if_pos rfl]; rfl), ← ih, Nat.add_comm]
      rfl
    · rw [List.count_cons_of_ne (by simpa using hb), ← ih]
      have hge := Lib.index_ge l [32]
      by_cases h : Lib.index l [32] = -1
      · rw [Lib.count_miss h, Lib.count_miss (by rw [index_one, if_neg hb, if_pos h])]
      · obtain ⟨i, hi⟩ : ∃ i : Nat, Lib.index l [32] = i := ⟨(Lib.index l [32]).toNat, by omega⟩
        rw [Lib.count_hit (s := l) (i := i) (by simp) hi, Lib.count_hit (s := b :: l) (i := i + 1) (by simp) (by rw [index_one, if_neg hb, if_neg h, hi]; rfl)]
        rfl
theorem splitK_all (l : List UInt8) : Lib.splitK [32] 0 (l.count 32) l = splA [] l := by
  induction l with
  | nil => rfl
  | cons b l ih =>
    by_cases hb : b = 32
    · subst hb
      rw [List.count_cons_self, Lib.splitK, index_one, if_pos rfl]
      simp [splA, ih]
    · rw [List.count_cons_of_ne (by simpa using hb), splitK_head b hb, ih, splA, if_neg hb]
      exact (splA_head l [b] []).symm

theorem ba_of {l : List UInt8} {x : ByteArray} (h : x.data.toList = l) : x = ⟨l.toArray⟩ := by
  subst h; cases x; simp
theorem splitB_all (s : ByteArray) : Lib.splitB ⟨#[32]⟩ 0 (Lib.countB s ⟨#[32]⟩) s = (splA [] s.data.toList).map (fun l => ⟨l.toArray⟩) := by
  have h := Lib.splitB_data ⟨#[32]⟩ 0 (Lib.countB s ⟨#[32]⟩) s
  have e : Lib.countB s ⟨#[32]⟩ = s.data.toList.count 32 := count_one s.data.toList
  rw [e] at h ⊢
  rw [← splitK_all]
  have h2 : (Lib.splitB ⟨#[32]⟩ 0 (s.data.toList.count 32) s).map (·.data.toList) = Lib.splitK [32] 0 (s.data.toList.count 32) s.data.toList := h
  rw [← h2, List.map_map]
  conv => lhs; rw [← List.map_id (Lib.splitB ⟨#[32]⟩ 0 (s.data.toList.count 32) s)]
  refine List.map_congr_left fun x _ => ?_
  exact ba_of rfl
theorem splA_count (l : List UInt8) : ∀ cur, (splA cur l).length = l.count 32 + 1 := by
  induction l with
  | nil => intro cur; rfl
  | cons b l ih =>
    intro cur
    unfold splA
    split
    · rename_i h; subst h; rw [List.length_cons, ih, List.count_cons_self]
    · rename_i h; rw [ih, List.count_cons_of_ne (by simpa using h)]

/-- A line's words: none where a byte is none of a line's, or a word is empty. -/
def okB (b : UInt8) : Bool := decide (32 ≤ b.toNat ∧ b.toNat ≤ 126)
def wds (l : List UInt8) : Option (List (List UInt8)) := if l = [] then some [] else if l.all okB && (splA [] l).all (fun p => decide (p ≠ [])) then some (splA [] l) else none

end Go.Proofs.YtmbcfijhlpeddaaDoor
/- The library's contracts at this program (this seat alone: its numbers; written by gensheld.py). -/
namespace Go.Proofs.YtmbcfijhlpeddaaDoor
open Go.Shelf Go.ChangeShapes Go.WideShapes Go.ChangeAt Go.RowKit
def lays156_ren : Go.Shelf.Ren := ⟨fun | 156 => 22 | 165 => 32 | 166 => 33 | 169 => 34 | 240 => 44 | 241 => 45 | 276 => 51 | 277 => 52 | n => n, fun | 31 => 52 | 9 => 9 | 3 => 3 | 4 => 4 | 0 => 0 | 20 => 20 | 72 => 67 | 76 => 71 | 70 => 65 | 37 => 61 | 75 => 70 | 127 => 81 | 164 => 91 | 5 => 5 | 80 => 73 | n => n, fun | n => n⟩
theorem lays156 : Go.Proofs.Lays.n156 Tryd.prog lays156_ren := {
  mixed := by kernel_rfl
  f156 := Tryd.func22.trans (congrArg some (by kernel_rfl))
  f165 := Tryd.func32.trans (congrArg some (by kernel_rfl))
  f166 := Tryd.func33.trans (congrArg some (by kernel_rfl))
  f169 := Tryd.func34.trans (congrArg some (by kernel_rfl))
  f240 := Tryd.func44.trans (congrArg some (by kernel_rfl))
  f241 := Tryd.func45.trans (congrArg some (by kernel_rfl))
  f276 := Tryd.func51.trans (congrArg some (by kernel_rfl))
  f277 := Tryd.func52.trans (congrArg some (by kernel_rfl))
  t0 := Tryd.underlying0
  a0 := Tryd.isAgg0
  z0 := Tryd.sizeOf0
  v0 := Tryd.zeroValue0
  t3 := Tryd.underlying3
  a3 := Tryd.isAgg3
  z3 := Tryd.sizeOf3
  v3 := Tryd.zeroValue3
  t4 := Tryd.underlying4
  a4 := Tryd.isAgg4
  z4 := Tryd.sizeOf4
  v4 := Tryd.zeroValue4
  t9 := Tryd.underlying9
  a9 := Tryd.isAgg9
  z9 := Tryd.sizeOf9
  v9 := Tryd.zeroValue9
  t20 := Tryd.underlying20
  a20 := Tryd.isAgg20
  z20 := Tryd.sizeOf20
  v20 := Tryd.zeroValue20
  t31 := Tryd.underlying52
  a31 := Tryd.isAgg52
  z31 := Tryd.sizeOf52
  v31 := Tryd.zeroValue52
  t37 := Tryd.underlying61
  a37 := Tryd.isAgg61
  z37 := Tryd.sizeOf61
  v37 := Tryd.zeroValue61
  t70 := Tryd.underlying65
  a70 := Tryd.isAgg65
  z70 := Tryd.sizeOf65
  v70 := Tryd.zeroValue65
  t72 := Tryd.underlying67
  a72 := Tryd.isAgg67
  z72 := Tryd.sizeOf67
  v72 := Tryd.zeroValue67
  t75 := Tryd.underlying70
  a75 := Tryd.isAgg70
  z75 := Tryd.sizeOf70
  v75 := Tryd.zeroValue70
  t76 := Tryd.underlying71
  a76 := Tryd.isAgg71
  z76 := Tryd.sizeOf71
  v76 := Tryd.zeroValue71
  t127 := Tryd.underlying81
  a127 := Tryd.isAgg81
  z127 := Tryd.sizeOf81
  v127 := Tryd.zeroValue81
  t164 := Tryd.underlying91
  a164 := Tryd.isAgg91
  z164 := Tryd.sizeOf91
  v164 := Tryd.zeroValue91 }
theorem Builder_Extra_156 : Builder.Extra Tryd.prog lays156_ren := {
  sizeBuilder := by kernel_rfl
  liesBuilder := by kernel_rfl
  t5 := Tryd.underlying5
  a5 := Tryd.isAgg5
  z5 := Tryd.sizeOf5
  v5 := Tryd.zeroValue5
  infoByte := by kernel_rfl
  cellsByte := by kernel_rfl
  sizeByte := by kernel_rfl
  neB5 := by decide }
open Go.RowKit in
theorem c_strings_Join (bk o c : Nat) (xs : List ByteArray) (sep : ByteArray) (w : World) (hcells : ∀ (j : Nat) x, xs[j]? = some x → w.cell? ⟨bk, o + j, none⟩ = some (.string x)) (hbk : bk < w.heap.size) (hN : xs.length ≤ 140737488355328) (hcap : xs.length ≤ c) (hlen : (Lib.join (xs.map (·.data.toList)) sep.data.toList).length ≤ 140737488355328) :
    Calls Tryd.prog 22 #[.slice (some ⟨bk, o, none⟩) xs.length c, .string sep] w fun e w' => e = .returned (.string ⟨(Lib.join (xs.map (·.data.toList)) sep.data.toList).toArray⟩) ∧ Below w.heap.size w w' := Any.strings_Join lays156 Builder_Extra_156 bk o c xs sep w hcells hbk hN hcap hlen
end Go.Proofs.YtmbcfijhlpeddaaDoor
