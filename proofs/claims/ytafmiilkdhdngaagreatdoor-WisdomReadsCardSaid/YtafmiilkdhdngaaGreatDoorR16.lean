/- Put together by program (merge2.py): Byr. -/
import Derived.Lib.AppendStr
import Derived.Laws.BytesArg
import Derived.Test.YtafmiilkdhdngaaGreatDoorR15
/- Rows of bytes that grow; a tree's text part by part. -/
namespace Go.Proofs.YtafmiilkdhdngaaGreatDoor
open Go.ChangeShapes Go.WideShapes Go.ChangeAt Go.RowKit
set_option linter.unusedVariables false
set_option linter.unusedSimpArgs false
def bc (l : List UInt8) : List Value := l.map fun b => Value.int .u8 (b.toNat : Int)
/-- A row of bytes of the call's own. -/
def OwnB (w : World) (B : Nat) (v : Value) (l : List UInt8) : Prop := w.ownsRow B 5 1 v l.length (bc l)
theorem OwnB.nil (w : World) (B : Nat) : OwnB w B (.slice none 0 0) [] := World.ownsRow_nil w B _ 1
theorem OwnB.below {w w' : World} {B : Nat} {v : Value} {l : List UInt8} (h : OwnB w B v l) (hb : Below w.heap.size w w') : OwnB w' B v l := own_below h hb
theorem OwnB.form {w : World} {B : Nat} {v : Value} {l : List UInt8} (h : OwnB w B v l) : ∃ a n c, v = .slice a n c := by
  rcases own_form h with ⟨rfl, -, -⟩ | ⟨g, c, rfl, -⟩
  · exact ⟨_, _, _, rfl⟩
  · exact ⟨_, _, _, rfl⟩
/-- Memory of other kinds is as it was. -/
def Oth (w w' : World) : Prop := ∀ (k : Nat) (cs : Array Value) (T : TypeId) (fr : Nat × Nat), w.heap[k]? = some (Obj.cells cs T fr) → T ≠ 5 → w'.heap[k]? = w.heap[k]?
theorem Oth.refl (w : World) : Oth w w := fun _ _ _ _ _ _ => rfl
theorem Oth.trans {w w' w'' : World} (h : Oth w w') (k : Oth w' w'') : Oth w w'' := fun i cs T fr hi hT => (k i cs T fr ((h i cs T fr hi hT).trans hi) hT).trans (h i cs T fr hi hT)
theorem Oth.of_below {w w' : World} (h : Below w.heap.size w w') : Oth w w' := fun k cs T fr hk _ => h.block k (Nat.lt_of_not_le fun hn => by rw [Array.getElem?_eq_none hn] at hk; cases hk)
theorem Oth.grown {w w' : World} {B : Nat} {v : Value} {l : List UInt8} (h : OwnB w B v l) (hg : w.grownBy w' v.ownBlock) : Oth w w' := fun k cs T fr hk hT => by
  refine hg.block k (Nat.lt_of_not_le fun hn => by rw [Array.getElem?_eq_none hn] at hk; cases hk) (fun e => ?_)
  obtain ⟨-, h | ⟨g, cap, cur, rfl, -, hh, -⟩⟩ := h
  · rw [h.1] at e; cases e
  · have : g = k := by simpa [Value.ownBlock] using e.symm
    subst this
    rw [hk] at hh
    simp only [Option.some.injEq, Obj.cells.injEq] at hh
    exact hT hh.2.1
theorem info_u8 : (Tryz.prog.info? 5).map (fun i => (i.zero, i.size, i.bytes)) = some (some (.int .u8 0), 1, 1) := by kernel_rfl
theorem wp_append_b1 {o : Oper} {a : Act} {K : Act → World → Prop} {Q : Exit → Act → World → Prop} {W : World} {B bb : Nat} {v : Value} {l : List UInt8} {c : UInt8} (s x : Operand)
    (ho : o.op = .call { callee := .builtin .append, args := #[s, x], argTypes := #[49, 49] }) (hs : a.eval s = v) (hown : OwnB W B v l) (hx : a.eval x = .slice (some ⟨bb, 0, none⟩) 1 1) (hc : W.cell? ⟨bb, 0, none⟩ = some (.int .u8 (c.toNat : Int)))
    (hB : B ≤ W.heap.size) (hlen : l.length ≤ 1000000)
    (h : ∀ v' w', OwnB w' B v' (l ++ [c]) → Below B W w' → Oth W w' → K (a.put o.dst v') w') : o.wp Tryz.prog a W K Q := by
  obtain ⟨i0, hi, hz0, hz1, hz2⟩ := info_parts info_u8
  refine wp_append_lies _ s x 49 ho B 5 i0 (.int .u8 0) 1 1 Tryz.underlying49 hi hz0 hz1 hz2 rfl (by decide) v l.length (bc l) hs hown ⟨bb, 0, none⟩ 1 1 [.int .u8 (c.toNat : Int)] hx rfl ?_ ?_ (by decide) (by unfold maxLen; omega) (by omega) hB _ rfl ?_
  · intro j u hj
    match j, hj with
    | 0, hj =>
      simp only [List.getElem?_cons_zero, Option.some.injEq] at hj
      subst hj
      exact hc
  · intro u hu; simp at hu; subst hu; rfl
  · intro g cap w' h1 h2 _ _
    refine h _ w' ?_ ((Below.refl _ _).grown h2 hB (fun i hi => (World.ownsRow.lt hown i hi).1)) (Oth.grown hown h2)
    unfold OwnB
    rw [List.length_append]
    simpa [bc] using h1
theorem append_b1 {ops : Array Oper} {rest : List Oper} {o : Oper} {a : Act} {Q : Exit → Act → World → Prop} {W : World} {B : Nat} {v : Value} {l : List UInt8} {c : UInt8} {z : Int} (hz : z = (c.toNat : Int)) (hgd : o.guard = none) (s x : Operand)
    (ho : o.op = .call { callee := .builtin .append, args := #[s, x], argTypes := #[49, 49] }) (hs : a.eval s = v) (hown : OwnB W B v l) (hx : a.eval x = .slice (some ⟨W.heap.size, 0, none⟩) 1 1)
    (hB : B ≤ W.heap.size) (hlen : l.length ≤ 1000000)
    (h : ∀ v' w', OwnB w' B v' (l ++ [c]) → Below B W w' → Oth W w' → wpList Tryz.prog ops Q rest (a.put o.dst v') w') : wpList Tryz.prog ops Q (o :: rest) a (W.alloc (.cells #[.int .u8 z] 5)) := by
  subst hz
  refine wpList_plain hgd fun K hK => ?_
  have hb : Below W.heap.size W (W.alloc (.cells #[.int .u8 (c.toNat : Int)] 5)) := (Below.refl _ _).alloc (Nat.le_refl _) _
  exact wp_append_b1 s x ho hs (hown.below hb) hx (by rw [cell_of_row _ _ _ _ _ _ (heap_alloc_new W _)]; rfl) (by simp; omega) hlen (fun v' w' h1 h2 h3 => hK _ _ (h v' w' h1 ((hb.mono hB).trans h2) ((Oth.of_below hb).trans h3)))
theorem append_bs {ops : Array Oper} {rest : List Oper} {o : Oper} {a : Act} {Q : Exit → Act → World → Prop} {W : World} {B : Nat} {v : Value} {l : List UInt8} {t : ByteArray} (hgd : o.guard = none) (s x : Operand)
    (ho : o.op = .call { callee := .builtin .append, args := #[s, x], argTypes := #[49, 9] }) (hs : a.eval s = v) (hown : OwnB W B v l) (hx : a.eval x = .string t)
    (hB : B ≤ W.heap.size) (hlen : l.length + t.size ≤ 1000000)
    (h : ∀ v' w', OwnB w' B v' (l ++ t.data.toList) → Below B W w' → Oth W w' → wpList Tryz.prog ops Q rest (a.put o.dst v') w') : wpList Tryz.prog ops Q (o :: rest) a W := by
  obtain ⟨i0, hi, hz0, hz1, hz2⟩ := info_parts info_u8
  refine Lib.wpList_append_own_string W hgd s x 49 9 ho B 5 i0 Tryz.underlying49 Tryz.underlying9 hi hz0 hz1 hz2 v l.length (bc l) hs hown t hx (by unfold maxLen; omega) (by omega) hB ?_
  intro v' w' h1 h2 _
  refine h v' w' ?_ ((Below.refl _ _).grown h2 hB (fun i hi => (World.ownsRow.lt hown i hi).1)) (Oth.grown hown h2)
  unfold OwnB
  rw [List.length_append, ← Lib.size_eq]
  simpa [bc, Lib.strCells] using h1
/-- Its bytes as a text. -/
theorem OwnB.text {w : World} {B : Nat} {a : Option Addr} {n c : Nat} {l : List UInt8} (h : OwnB w B (.slice a n c) l) (hl : l ≠ []) : ∀ wx, wx = w → (convert 49 9 (.slice a n c)).run Tryz.prog wx = .ok (.string ⟨l.toArray⟩) wx := by
  intro wx ew
  subst ew
  rcases own_form h with ⟨-, h0, -⟩ | ⟨g, c', e, -, -, -, -, hcell⟩
  · exact absurd (List.length_eq_zero_iff.1 h0) hl
  · simp only [Value.slice.injEq] at e
    obtain ⟨rfl, rfl, rfl⟩ := e
    have := run_convert_bytes_arg (P := Tryz.prog) wx 49 5 Tryz.underlying49 Tryz.underlying5 g 0 l.length c (l.map fun b => (b.toNat : Int)) (by simp) (fun i hi => by
      obtain ⟨u, h1, h2, -⟩ := hcell i (by omega)
      rw [Nat.zero_add, h2]
      have h3 : l[i]? = some l[i] := List.getElem?_eq_getElem hi
      simp only [bc, List.getElem?_map, h3, Option.map_some, Option.some.injEq] at h1
      rw [← h1]
      simp [List.getD, h3]) 9 Tryz.underlying9
    have e : strOfNums (l.map fun b => (b.toNat : Int)) = ⟨l.toArray⟩ := by
      apply ba_ext
      rw [strOfNums_data, List.map_map]
      show _ = l
      conv => rhs; rw [← List.map_id l]
      apply List.map_congr_left
      intro b _
      show UInt8.ofNat ((b.toNat : Int).toNat) = b
      rw [Int.toNat_natCast]
      exact UInt8.toNat_inj.1 (by rw [UInt8.toNat_ofNat']; have := b.toNat_lt; omega)
    rw [this, e]
/-- A node's text, and that of the first of some nodes. -/
def ndB (k n : Int) (ks : Fo) : List UInt8 := txB (.cons k n ks .nil)
def pt : Fo → Nat → List UInt8
  | _, 0 => []
  | .nil, _ + 1 => []
  | .cons k n ks r, i + 1 => ndB k n ks ++ (if i = 0 then [] else 44 :: pt r i)
theorem ndB_eq (k n : Int) (ks : Fo) : ndB k n ks = hdB k n ++ (if ks.len = 0 then [] else 40 :: (txB ks ++ [41])) := by
  show Gr.tx hdB 40 41 44 (.cons k n ks .nil) = _
  rw [Gr.tx]
  simp [Fo.len, txB]
theorem pt_zero (f : Fo) : pt f 0 = [] := by cases f <;> rfl
theorem pt_all : ∀ f : Fo, pt f f.len = txB f
  | .nil => rfl
  | .cons k n ks r => by
    show ndB k n ks ++ (if r.len = 0 then [] else 44 :: pt r r.len) = _
    rw [pt_all r, ndB_eq]
    unfold txB
    rw [Gr.tx, List.append_assoc]
theorem pt_snoc : ∀ (f : Fo) (i : Nat), i < f.len → pt f (i + 1) = pt f i ++ ((if i = 0 then [] else [44]) ++ ndB (f.k i) (f.n i) (f.kids i))
  | .nil, _, h => by simp [Fo.len] at h
  | .cons k n ks r, 0, _ => by simp [pt, Fo.k, Fo.n, Fo.kids]
  | .cons k n ks r, i + 1, h => by
    have ih := pt_snoc r i (Nat.lt_of_succ_lt_succ (show i + 1 < r.len + 1 from h))
    show ndB k n ks ++ (if i + 1 = 0 then [] else 44 :: pt r (i + 1)) = (ndB k n ks ++ (if i = 0 then [] else 44 :: pt r i)) ++ ((if i + 1 = 0 then [] else [44]) ++ ndB (r.k i) (r.n i) (r.kids i))
    rw [if_neg (Nat.succ_ne_zero i), if_neg (Nat.succ_ne_zero i), ih]
    by_cases h0 : i = 0
    · subst h0; simp [pt_zero]
    · simp [h0]
/-- The text as far as the i-th kid. -/
def upB (k n : Int) (ks : Fo) (i : Nat) : List UInt8 := hdB k n ++ (if i = 0 then [] else 40 :: pt ks i)
theorem upB_zero (k n : Int) (ks : Fo) : upB k n ks 0 = hdB k n := by simp [upB]
theorem upB_first {k n : Int} {ks : Fo} (h : 0 < ks.len) : upB k n ks 1 = (upB k n ks 0 ++ [40]) ++ ndB (ks.k 0) (ks.n 0) (ks.kids 0) := by
  have := pt_snoc ks 0 h
  rw [pt_zero] at this
  unfold upB
  rw [if_neg (by decide), if_pos rfl, this]; simp
theorem upB_next {k n : Int} {ks : Fo} {i : Nat} (h0 : i ≠ 0) (h : i < ks.len) : upB k n ks (i + 1) = (upB k n ks i ++ [44]) ++ ndB (ks.k i) (ks.n i) (ks.kids i) := by
  unfold upB
  rw [if_neg (by omega), if_neg h0, pt_snoc ks i h, if_neg h0]; simp
theorem upB_none {k n : Int} {ks : Fo} (h : ks.len = 0) : upB k n ks ks.len = ndB k n ks := by rw [ndB_eq, h, upB_zero]; simp
theorem upB_all {k n : Int} {ks : Fo} (h : ks.len ≠ 0) : upB k n ks ks.len ++ [41] = ndB k n ks := by
  rw [ndB_eq, if_neg h]
  unfold upB
  rw [if_neg h, pt_all]; simp
theorem wrd_size (k : Int) : (wrd k).size ≤ 5 := by
  unfold wrd
  repeat' split
  all_goals decide
theorem hdB_le {k n : Int} (h : okT1 k n) : (hdB k n).length ≤ 14 := by
  have h1 := wrd_size k
  have h2 := (dec_len (n := n.toNat) (by have := h.2.2; omega)).2
  rw [Lib.size_eq] at h1
  unfold hdB; rw [List.length_append]; omega
theorem txB_le : ∀ f : Fo, f.okT → (txB f).length ≤ 17 * f.cnt := by
  intro f
  induction f with
  | nil => intro _; simp [txB, Gr.tx]
  | cons k n ks r ihk ihr =>
    intro h
    have h1 := hdB_le h.1
    have h2 := ihk h.2.1
    have h3 := ihr h.2.2
    unfold txB at h2 h3 ⊢
    rw [Gr.tx, Fo.cnt, List.length_append, List.length_append]
    have h4 : (if ks.len = 0 then [] else (40 : UInt8) :: (Gr.tx hdB 40 41 44 ks ++ [41])).length ≤ 17 * ks.cnt + 2 := by
      by_cases hk : ks.len = 0
      · rw [if_pos hk]; simp
      · rw [if_neg hk]; simp only [List.length_cons, List.length_append, List.length_nil]; omega
    have h5 : (if r.len = 0 then [] else (44 : UInt8) :: Gr.tx hdB 40 41 44 r).length ≤ 17 * r.cnt + 1 := by
      by_cases hk : r.len = 0
      · rw [if_pos hk]; simp
      · rw [if_neg hk]; simp only [List.length_cons]; omega
    omega
theorem okT_at : ∀ {f : Fo} {i : Nat}, f.okT → i < f.len → okT1 (f.k i) (f.n i) ∧ (f.kids i).okT
  | .nil, _, _, h => by simp [Fo.len] at h
  | .cons _ _ _ _, 0, h, _ => ⟨h.1, h.2.1⟩
  | .cons _ _ _ r, i + 1, h, hi => okT_at (f := r) h.2.2 (by simp [Fo.len] at hi; omega)
theorem okT_all : ∀ {f : Fo}, (∀ i, i < f.len → okT1 (f.k i) (f.n i) ∧ (f.kids i).okT) → f.okT
  | .nil, _ => trivial
  | .cons _ _ _ r, h => ⟨(h 0 (by simp [Fo.len])).1, (h 0 (by simp [Fo.len])).2, okT_all (f := r) (fun i hi => h (i + 1) (by simp [Fo.len]; omega))⟩
theorem pt_le : ∀ (f : Fo) (i : Nat), (∀ j, j < i → j < f.len → okT1 (f.k j) (f.n j) ∧ (f.kids j).okT) → i ≤ f.len → (pt f i).length + 17 * (f.drop i).cnt ≤ 17 * f.cnt
  | f, 0, _, _ => by rw [pt_zero, Fo.drop_zero]; simp
  | .nil, i + 1, _, h => by simp [Fo.len] at h
  | .cons k n ks r, i + 1, h, hi => by
    have h0 := h 0 (by omega) (by simp [Fo.len])
    have ih := pt_le r i (fun j h1 h2 => h (j + 1) (by omega) (by simp [Fo.len]; omega)) (by simp [Fo.len] at hi; omega)
    show (ndB k n ks ++ (if i = 0 then [] else 44 :: pt r i)).length + 17 * (r.drop i).cnt ≤ 17 * (ks.cnt + r.cnt + 1)
    have h1 := txB_le (.cons k n ks .nil) ⟨h0.1, h0.2, trivial⟩
    have e : ndB k n ks = txB (.cons k n ks .nil) := rfl
    have h2 := hdB_le h0.1
    have h3 := txB_le ks h0.2
    rw [ndB_eq, List.length_append, List.length_append]
    have h4 : (if ks.len = 0 then [] else (40 : UInt8) :: (txB ks ++ [41])).length ≤ 17 * ks.cnt + 2 := by
      by_cases hk : ks.len = 0
      · rw [if_pos hk]; simp
      · rw [if_neg hk]; simp only [List.length_cons, List.length_append, List.length_nil]; omega
    have h5 : (if i = 0 then [] else (44 : UInt8) :: pt r i).length ≤ (pt r i).length + 1 := by
      by_cases hk : i = 0
      · rw [if_pos hk]; simp
      · rw [if_neg hk]; simp
    have h6 : (hdB k n).length ≤ 14 := h2
    omega
end Go.Proofs.YtafmiilkdhdngaaGreatDoor
