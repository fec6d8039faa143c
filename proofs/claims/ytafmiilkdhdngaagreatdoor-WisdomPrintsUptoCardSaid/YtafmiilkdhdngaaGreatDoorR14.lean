/- Put together by program (merge2.py): Txk Rdr Appt Nodt. -/
import Derived.Test.YtafmiilkdhdngaaGreatDoorR7
import Derived.Test.YtafmiilkdhdngaaGreatDoorR13
/- The tokens of a tree's text. -/
namespace Go.Proofs.YtafmiilkdhdngaaGreatDoor
open Go.ChangeShapes Go.WideShapes Go.ChangeAt Go.RowKit
set_option linter.unusedVariables false
set_option linter.unusedSimpArgs false

/-- Tokens lie one behind the other. -/
def Ch : Nat → List (Int × Nat × Nat) → Nat → Prop
  | a, [], n => a = n
  | a, (_, x, y) :: r, n => x = a ∧ x ≤ y ∧ Ch y r n
theorem Ch.le : ∀ {l : List (Int × Nat × Nat)} {a n : Nat}, Ch a l n → a ≤ n
  | [], _, _, h => by unfold Ch at h; omega
  | (_, x, y) :: r, a, n, h => by
    unfold Ch at h
    have := Ch.le h.2.2
    omega
theorem Ch.snoc : ∀ {l : List (Int × Nat × Nat)} {a n : Nat} (k : Int) (m : Nat), Ch a l n → n ≤ m → Ch a (l ++ [(k, n, m)]) m
  | [], a, n, k, m, h, hm => by unfold Ch at h; subst h; exact ⟨rfl, hm, rfl⟩
  | (_, x, y) :: r, a, n, k, m, h, hm => ⟨h.1, h.2.1, Ch.snoc k m h.2.2 hm⟩
theorem Ch.init : ∀ {l : List (Int × Nat × Nat)} {a n b : Nat} {k : Int} {x : Nat}, Ch a (l ++ [(k, x, b)]) n → Ch a l x ∧ x ≤ b ∧ b = n
  | [], a, n, b, k, x, h => by
    simp only [List.nil_append] at h
    unfold Ch at h
    obtain ⟨h1, h2, h3⟩ := h
    unfold Ch at h3
    exact ⟨h1.symm, h2, h3⟩
  | (_, p, q) :: r, a, n, b, k, x, h => by
    have h' : p = a ∧ p ≤ q ∧ Ch q (r ++ [(k, x, b)]) n := h
    obtain ⟨h4, h5⟩ := Ch.init h'.2.2
    exact ⟨⟨h'.1, h'.2.1, h4⟩, h5⟩
theorem tk_ch {s : ByteArray} : ∀ {i : Nat} {l : List (Int × Nat × Nat)}, tk s i = some l → Ch 0 l i := by
  intro i
  induction i with
  | zero => intro l h; simp [tk] at h; subst h; rfl
  | succ i ih =>
    intro l h
    simp only [tk] at h
    cases hp : tk s i with
    | none => simp [hp] at h
    | some m =>
      simp only [hp] at h
      have hm := ih hp
      by_cases h0 : kd (bt s i) = 0
      · simp [h0] at h
      · simp only [h0, if_false] at h
        rcases List.eq_nil_or_concat m with hnil | ⟨t, ⟨k, a, b⟩, hcon⟩
        · subst hnil
          simp only [List.getLast?_nil, Option.some.injEq] at h
          subst h
          exact hm.snoc _ _ (Nat.le_succ _)
        · rw [List.concat_eq_append] at hcon
          subst hcon
          simp only [List.getLast?_concat] at h
          split at h
          · simp only [Option.some.injEq, List.dropLast_concat] at h
            subst h
            obtain ⟨h1, h2, h3⟩ := hm.init
            exact h1.snoc k (i + 1) (by omega)
          · simp only [Option.some.injEq] at h
            subst h
            exact hm.snoc _ _ (Nat.le_succ _)

def ext (s : ByteArray) (l : List (Int × Nat × Nat)) : List ByteArray := l.map fun x => s.extract x.2.1 x.2.2
theorem flat_ext (s : ByteArray) : ∀ {l : List (Int × Nat × Nat)} {a n : Nat}, Ch a l n → flat (ext s l) = (s.data.toList.take n).drop a
  | [], a, n, h => by
    unfold Ch at h
    subst h
    show [] = _
    rw [List.drop_take]; simp
  | (k, x, y) :: r, a, n, h => by
    unfold Ch at h
    obtain ⟨rfl, hy, hr⟩ := h
    have hn := hr.le
    have ih := flat_ext s hr
    show flat ([s.extract x y] ++ ext s r) = _
    rw [flat_app, ih]
    show flat [s.extract x y] ++ _ = _
    have e1 : flat [s.extract x y] = (s.data.toList.drop x).take (y - x) := by
      simp only [flat, List.flatMap_cons, List.flatMap_nil, List.append_nil]
      rw [Lib.extract_data]
    rw [e1, List.drop_take, List.drop_take, show n - x = (y - x) + (n - y) by omega, List.take_add, List.drop_drop, show x + (y - x) = y by omega]

/-- One token's bytes. -/
def Pc (c : Int) (t : ByteArray) : Prop := 1 ≤ t.size ∧ (∀ b ∈ t.data.toList, kd (b.toNat : Int) = c) ∧ c ≠ 0 ∧ (c = 3 → t.size = 1)
theorem piece_run {s : ByteArray} {i : Nat} {c : Int} {l : List (Int × Nat × Nat)} (h0 : c ≠ 0) (h3 : c < 3) : ∀ (m j : Nat), tk s j = some (l ++ [(c, i, j)]) → (∀ x, j ≤ x → x < j + m → kd (bt s x) = c) → tk s (j + m) = some (l ++ [(c, i, j + m)]) := by
  intro m
  induction m with
  | zero => intro j h _; exact h
  | succ m ih =>
    intro j h hk
    have h1 := tk_more h h0 h3 (hk j (Nat.le_refl _) (by omega))
    have := ih (j + 1) h1 (fun x hx hy => hk x (by omega) (by omega))
    rw [show j + (m + 1) = j + 1 + m by omega]
    exact this
theorem piece_step {s t : ByteArray} {i : Nat} {c : Int} {l : List (Int × Nat × Nat)} {rest : List UInt8} (h : tk s i = some l) (hl : ∀ k a b, l.getLast? = some (k, a, b) → c = 3 ∨ k ≠ c) (hp : Pc c t) (he : s.data.toList.drop i = t.data.toList ++ rest) :
    tk s (i + t.size) = some (l ++ [(c, i, i + t.size)]) ∧ s.extract i (i + t.size) = t ∧ i + t.size ≤ s.size := by
  obtain ⟨h1, hk, h0, h3⟩ := hp
  have hlen := congrArg List.length he
  rw [List.length_drop, List.length_append, ← Lib.size_eq, ← Lib.size_eq] at hlen
  have hle : i + t.size ≤ s.size := by omega
  have hb : ∀ x, i ≤ x → x < i + t.size → kd (bt s x) = c := fun x hx hy => by
    have e1 := bt_list s x (by omega)
    have e2 : (s.data.toList.drop i)[x - i]? = s.data.toList[x]? := by rw [List.getElem?_drop, show i + (x - i) = x by omega]
    rw [he, List.getElem?_append_left (by rw [← Lib.size_eq]; omega), e1.1] at e2
    rw [e1.2]
    exact hk _ (List.mem_of_getElem? e2)
  refine ⟨?_, ?_, hle⟩
  · have hb0 := hb i (Nat.le_refl _) (by omega)
    have hpush := tk_push h (by rw [hb0]; exact h0) (fun k a b e => by rw [hb0]; exact hl k a b e)
    rw [hb0] at hpush
    by_cases e3 : c = 3
    · rw [h3 e3]; exact hpush
    · have hlt : c < 3 := by
        have := kd_le (bt s i); rw [hb0] at this; omega
      have := piece_run h0 hlt (t.size - 1) (i + 1) hpush (fun x hx hy => hb x (by omega) (by omega))
      rw [show i + 1 + (t.size - 1) = i + t.size by omega] at this
      exact this
  · apply ba_ext
    rw [Lib.extract_data, he, show i + t.size - i = t.size by omega, Lib.size_eq, List.take_left]
def Alt : Int → List ByteArray → Prop
  | _, [] => True
  | p, t :: r => ∃ c, Pc c t ∧ (c = 3 ∨ p ≠ c) ∧ Alt c r
theorem tk_alt {s : ByteArray} : ∀ (ps : List ByteArray) (p : Int) (i : Nat) (l : List (Int × Nat × Nat)), i ≤ s.size → tk s i = some l → (∀ k a b, l.getLast? = some (k, a, b) → k = p) → Alt p ps → s.data.toList.drop i = flat ps → ∃ l', tk s s.size = some (l ++ l') ∧ ext s l' = ps
  | [], p, i, l, hi, h, _, _, he => by
    have hlen := congrArg List.length he
    rw [List.length_drop, ← Lib.size_eq] at hlen
    have : i = s.size := by
      have : (flat []).length = 0 := rfl
      omega
    subst this
    exact ⟨[], by rw [List.append_nil]; exact h, rfl⟩
  | t :: r, p, i, l, hi, h, hl, ⟨c, hp, hc, ha⟩, he => by
    have he2 : s.data.toList.drop i = t.data.toList ++ flat r := by rw [he]; rfl
    obtain ⟨h1, h2, h3⟩ := piece_step h (fun k a b e => by
      rcases hc with hc | hc
      · exact .inl hc
      · exact .inr (by rw [hl k a b e]; exact hc)) hp he2
    obtain ⟨l', h4, h5⟩ := tk_alt r c (i + t.size) _ h3 h1 (fun k a b e => by
      rw [List.getLast?_concat] at e
      simp only [Option.some.injEq, Prod.mk.injEq] at e
      exact e.1.symm) ha (by rw [← List.drop_drop, he2, Lib.size_eq, List.drop_left])
    refine ⟨(c, i, i + t.size) :: l', ?_, ?_⟩
    · rw [h4]; simp
    · show s.extract i (i + t.size) :: ext s l' = _
      rw [h2, h5]
theorem wrd_kd : ∀ i : Fin 8, i.val ≠ 0 → ((wrd i.val).data.toList.all fun b => decide (kd (b.toNat : Int) = 1)) = true := by decide +kernel
theorem pc_wrd {k : Int} (h : 1 ≤ k ∧ k ≤ 7) : Pc 1 (wrd k) := by
  refine ⟨by rw [Lib.size_eq]; exact wrd_len h, fun b hb => ?_, by decide, fun e => by cases e⟩
  have := wrd_kd ⟨k.toNat, by omega⟩ (by show k.toNat ≠ 0; omega)
  rw [show (((⟨k.toNat, by omega⟩ : Fin 8).val : Nat) : Int) = k from Int.toNat_of_nonneg (by omega)] at this
  exact of_decide_eq_true (List.all_eq_true.1 this b hb)
theorem pc_dig {n : Nat} (h : n ≤ 999999999) : Pc 2 ⟨(Lib.decDigits n).toArray⟩ := by
  have hl := dec_len h
  refine ⟨by rw [Lib.size_eq]; simpa using hl.1, fun b hb => ?_, by decide, fun e => by cases e⟩
  have := dec_dig n b (by simpa using hb)
  unfold kd
  rw [if_neg (by omega), if_pos (by omega)]
theorem pc_op : Pc 3 opB := ⟨by decide, by decide, by decide, fun _ => rfl⟩
theorem pc_cl : Pc 3 clB := ⟨by decide, by decide, by decide, fun _ => rfl⟩
theorem pc_cm : Pc 3 cmB := ⟨by decide, by decide, by decide, fun _ => rfl⟩
theorem alt_tx : ∀ (x : Fo) (p : Int) (tail : List ByteArray), x.okT → x.len ≠ 0 → p ≠ 1 → (∀ q, q = 2 ∨ q = 3 → Alt q tail) → Alt p (txT x ++ tail) := by
  intro x
  induction x with
  | nil => intro p tail _ h; simp [Fo.len] at h
  | cons k n ks r ihk ihr =>
    intro p tail ho _ hp ht
    obtain ⟨⟨hk, h0, h9⟩, hok, hor⟩ := ho
    have hB : ∀ q, q = 2 ∨ q = 3 → Alt q ((if r.len = 0 then [] else cmB :: Gr.tx hdT opB clB cmB r) ++ tail) := fun q hq => by
      by_cases hr : r.len = 0
      · rw [if_pos hr]; exact ht q hq
      · rw [if_neg hr]
        exact ⟨3, pc_cm, .inl rfl, ihr 3 tail hor hr (by decide) ht⟩
    unfold txT
    rw [Gr.tx]
    refine ⟨1, pc_wrd hk, .inr hp, 2, pc_dig (by omega), .inr (by decide), ?_⟩
    show Alt 2 (([] ++ (_ ++ _)) ++ tail)
    rw [List.nil_append, List.append_assoc]
    by_cases hk : ks.len = 0
    · rw [if_pos hk]; exact hB 2 (.inl rfl)
    · rw [if_neg hk]
      refine ⟨3, pc_op, .inl rfl, ?_⟩
      show Alt 3 ((txT ks ++ [clB]) ++ _)
      rw [List.append_assoc]
      exact ihk 3 _ hok hk (by decide) (fun q _ => ⟨3, pc_cl, .inl rfl, hB 3 (.inr rfl)⟩)
theorem tk_tx {s : ByteArray} {k n : Int} {ks : Fo} (h : (Fo.cons k n ks .nil).okT) (e : s.data.toList = txB (.cons k n ks .nil)) : ∃ l, tk s s.size = some l ∧ ext s l = txT (.cons k n ks .nil) := by
  have ha := alt_tx _ 0 [] h (by simp [Fo.len]) (by decide) (fun _ _ => trivial)
  rw [List.append_nil] at ha
  obtain ⟨l, h1, h2⟩ := tk_alt (s := s) _ 0 0 [] (Nat.zero_le _) rfl (by simp) ha (by rw [List.drop_zero, txT_flat]; exact e)
  exact ⟨l, h1, h2⟩
theorem NT_what {s : ByteArray} {l : List (Int × Nat × Nat)} (hl : tk s s.size = some l) (k n : Int) (ks : Fo) : NT (ext s l) = some ((k, n, ks), []) ↔ (Fo.cons k n ks .nil).okT ∧ s.data.toList = txB (.cons k n ks .nil) := by
  constructor
  · intro h
    obtain ⟨h1, h2⟩ := NT_sound h
    refine ⟨h1, ?_⟩
    have := flat_ext s (tk_ch hl)
    rw [h2, txT_flat, List.drop_zero, Lib.size_eq, List.take_length] at this
    exact this.symm
  · rintro ⟨h1, h2⟩
    obtain ⟨l', h3, h4⟩ := tk_tx h1 h2
    rw [h3] at hl
    obtain rfl := Option.some.inj hl
    rw [h4]
    exact NT_all h1
theorem tk_none_tx {s : ByteArray} (hl : tk s s.size = none) (k n : Int) (ks : Fo) : ¬ ((Fo.cons k n ks .nil).okT ∧ s.data.toList = txB (.cons k n ks .nil)) := by
  rintro ⟨h1, h2⟩
  obtain ⟨l', h3, -⟩ := tk_tx h1 h2
  rw [h3] at hl; cases hl
theorem tx_cntB {k n : Int} {ks : Fo} (h : (Fo.cons k n ks .nil).okT) : ks.cnt + 1 ≤ (txB (.cons k n ks .nil)).length := by
  have := tx_cnt (op := (40 : UInt8)) (cl := 41) (cm := 44) hdB_len _ h
  simpa [Fo.cnt, txB] using this
end Go.Proofs.YtafmiilkdhdngaaGreatDoor
/- The reader as one fact: its place among the tokens' texts. -/
namespace Go.Proofs.YtafmiilkdhdngaaGreatDoor
open Go.ChangeShapes Go.WideShapes Go.ChangeAt Go.RowKit
set_option linter.unusedVariables false
set_option linter.unusedSimpArgs false
structure Rdr (w : World) (r g : Nat) (A : Option Addr) (n c : Nat) (ts : List ByteArray) (at_ : Nat) : Prop where
  hr : w.heap[r]? = some (.cells #[.slice A n c, .int .i64 at_] 123 (0, 0))
  hl : ts.length = n
  ha : n = 0 ∨ A = some ⟨g, 0, none⟩
  ht : ∀ j t, ts[j]? = some t → w.cell? ⟨g, j * 3 + 1, none⟩ = some (.string t)
  hg : g ≠ r
  hm : at_ ≤ n
  hn : n ≤ 100000
  hgl : n = 0 ∨ g < w.heap.size
theorem Rdr.lt {w : World} {r g : Nat} {A : Option Addr} {n c : Nat} {ts : List ByteArray} {at_ : Nat} (h : Rdr w r g A n c ts at_) : r < w.heap.size := Nat.lt_of_not_le fun hn => by
  have := h.hr
  rw [Array.getElem?_eq_none hn] at this; cases this
theorem Rdr.c0 {w : World} {r g : Nat} {A : Option Addr} {n c : Nat} {ts : List ByteArray} {at_ : Nat} (h : Rdr w r g A n c ts at_) : w.cell? ⟨r, 0, none⟩ = some (.slice A n c) := by
  rw [cell_of_row w r 0 _ _ _ h.hr]; rfl
theorem Rdr.c1 {w : World} {r g : Nat} {A : Option Addr} {n c : Nat} {ts : List ByteArray} {at_ : Nat} (h : Rdr w r g A n c ts at_) : w.cell? ⟨r, 1, none⟩ = some (.int .i64 at_) := by
  rw [cell_of_row w r 1 _ _ _ h.hr]; rfl
theorem Rdr.free {w : World} {r g : Nat} {A : Option Addr} {n c : Nat} {ts : List ByteArray} {at_ : Nat} (h : Rdr w r g A n c ts at_) (j : Nat) : w.frozen? ⟨r, j, none⟩ = false := frozen_of_row w r j _ _ h.hr
theorem Rdr.carry {w w' : World} {r g : Nat} {A : Option Addr} {n c : Nat} {ts : List ByteArray} {at_ : Nat} (h : Rdr w r g A n c ts at_) (hz : w.heap.size ≤ w'.heap.size) (h1 : w'.heap[r]? = w.heap[r]?) (h2 : n = 0 ∨ w'.heap[g]? = w.heap[g]?) : Rdr w' r g A n c ts at_ := by
  refine ⟨by rw [h1]; exact h.hr, h.hl, h.ha, fun j t hj => ?_, h.hg, h.hm, h.hn, h.hgl.imp id (fun x => Nat.lt_of_lt_of_le x hz)⟩
  rcases h2 with h2 | h2
  · have := h.hl
    rw [h2] at this
    rw [List.length_eq_zero_iff.1 this] at hj
    simp at hj
  · exact (World.cell?_of_block (a := ⟨g, j * 3 + 1, none⟩) h2).trans (h.ht j t hj)
theorem Rdr.below {w w' : World} {r g : Nat} {A : Option Addr} {n c : Nat} {ts : List ByteArray} {at_ B : Nat} (h : Rdr w r g A n c ts at_) (hb : Below B w w') (h1 : r < B) (h2 : n = 0 ∨ g < B) : Rdr w' r g A n c ts at_ :=
  h.carry hb.size (hb.block r h1) (h2.imp id (fun x => hb.block g x))
theorem Rdr.belowAll {w w' : World} {r g : Nat} {A : Option Addr} {n c : Nat} {ts : List ByteArray} {at_ : Nat} (h : Rdr w r g A n c ts at_) (hb : Below w.heap.size w w') : Rdr w' r g A n c ts at_ := h.below hb h.lt h.hgl
theorem Rdr.drewN {w : World} {r g : Nat} {A : Option Addr} {n c : Nat} {ts : List ByteArray} {at_ : Nat} (h : Rdr w r g A n c ts at_) (q : Nat) : Rdr (w.drewN q) r g A n c ts at_ := h.carry (Nat.le_refl _) rfl (.inr rfl)
theorem Rdr.step {w : World} {r g : Nat} {A : Option Addr} {n c : Nat} {ts : List ByteArray} {at_ : Nat} (h : Rdr w r g A n c ts at_) (hlt : at_ < n) : Rdr (w.setCell ⟨r, 1, none⟩ (.int .i64 ((at_ : Int) + 1))) r g A n c ts (at_ + 1) := by
  refine ⟨?_, h.hl, h.ha, fun j t hj => ?_, h.hg, by omega, h.hn, h.hgl.imp id (fun x => by simpa using x)⟩
  · rw [heap_setCell_same w r 1 _ _ _ h.hr]
    rfl
  · exact (World.cell?_of_block (a := ⟨g, j * 3 + 1, none⟩) (heap_setCell_other w ⟨r, 1, none⟩ g _ h.hg)).trans (h.ht j t hj)
theorem But.drewN (w : World) (B q : Nat) : But w (w.drewN q) B := ⟨fun _ _ _ => rfl, Nat.le_refl _, fun H _ h2 => by
  have h := Lib.below_grow H w h2 q #[]
  have e : Go.Sort.grow (w.drewN q) #[] = w.drewN q := Go.Sort.grow_empty _
  rw [e] at h; exact h⟩

theorem r_next {w : World} {r g : Nat} {A : Option Addr} {n c : Nat} {ts : List ByteArray} {at_ : Nat} (h : Rdr w r g A n c ts at_) :
    Calls Tryz.prog 93 #[.pointer (some ⟨r, 0, none⟩)] w fun e w' => But w w' r ∧ w'.heap.size = w.heap.size ∧ e = .returned (.string (ts.getD at_ ⟨#[]⟩)) ∧ Rdr w' r g A n c ts (if at_ < n then at_ + 1 else at_) := by
  by_cases hlt : at_ < n
  · have hl := h.hl
    have ht : ts[at_]? = some (ts[at_]'(by omega)) := List.getElem?_eq_getElem (by omega)
    obtain ⟨t, hte⟩ : ∃ t, ts[at_]'(by omega) = t := ⟨_, rfl⟩
    rw [hte] at ht
    have hA : A = some ⟨g, 0, none⟩ := by
      rcases h.ha with h0 | h0
      · omega
      · exact h0
    subst hA
    refine (d_next r g n c at_ t w hlt h.hn h.hg h.c0 h.c1 (h.free 1) (h.ht _ _ ht)).mono ?_
    rintro e w' ⟨rfl, q, rfl⟩
    refine ⟨(But.set w r 1 _).trans (But.drewN _ r q), by simp, ?_, ?_⟩
    · rw [List.getD, ht]; rfl
    · rw [if_pos hlt]; exact (h.step hlt).drewN q
  · have hm := h.hm
    obtain rfl : at_ = n := by omega
    refine (d_next_end r A at_ c w h.c0 h.c1).mono ?_
    rintro e w' ⟨rfl, q, rfl⟩
    refine ⟨But.drewN _ r q, by simp, ?_, ?_⟩
    · rw [List.getD, List.getElem?_eq_none (by rw [h.hl]; exact Nat.le_refl _)]; rfl
    · rw [if_neg hlt]; exact h.drewN q
theorem r_is {w : World} {r g : Nat} {A : Option Addr} {n c : Nat} {ts : List ByteArray} {at_ : Nat} (h : Rdr w r g A n c ts at_) (sg : ByteArray) :
    Calls Tryz.prog 94 #[.pointer (some ⟨r, 0, none⟩), .string sg] w fun e w' => But w w' r ∧ w'.heap.size = w.heap.size ∧ e = .returned (.bool (decide (ts[at_]? = some sg))) ∧ Rdr w' r g A n c ts (if ts[at_]? = some sg then at_ + 1 else at_) := by
  by_cases hlt : at_ < n
  · have hl := h.hl
    have ht : ts[at_]? = some (ts[at_]'(by omega)) := List.getElem?_eq_getElem (by omega)
    obtain ⟨t, hte⟩ : ∃ t, ts[at_]'(by omega) = t := ⟨_, rfl⟩
    rw [hte] at ht
    have hA : A = some ⟨g, 0, none⟩ := by
      rcases h.ha with h0 | h0
      · omega
      · exact h0
    subst hA
    refine (d_is r g n c at_ t sg w hlt h.hn h.hg h.c0 h.c1 (h.free 1) (h.ht _ _ ht)).mono ?_
    rintro e w' (⟨rfl, rfl, q, rfl⟩ | ⟨hne, rfl, q, rfl⟩)
    · refine ⟨(But.set w r 1 _).trans (But.drewN _ r q), by simp, ?_, ?_⟩
      · rw [decide_eq_true ht]
      · rw [if_pos ht]; exact (h.step hlt).drewN q
    · have : ¬ ts[at_]? = some sg := by rw [ht]; intro e; exact hne (Option.some.inj e)
      refine ⟨But.drewN _ r q, by simp, ?_, ?_⟩
      · rw [decide_eq_false this]
      · rw [if_neg this]; exact h.drewN q
  · have hm := h.hm
    obtain rfl : at_ = n := by omega
    have : ¬ ts[at_]? = some sg := by rw [List.getElem?_eq_none (by rw [h.hl]; exact Nat.le_refl _)]; simp
    refine (d_is_end r A at_ c sg w h.c0 h.c1).mono ?_
    rintro e w' ⟨rfl, q, rfl⟩
    refine ⟨But.drewN _ r q, by simp, ?_, ?_⟩
    · rw [decide_eq_false this]
    · rw [if_neg this]; exact h.drewN q
end Go.Proofs.YtafmiilkdhdngaaGreatDoor
/- 'append(l, d)' of one node onto a row of the call's own, whose kids lie in later memory. -/
namespace Go.Proofs.YtafmiilkdhdngaaGreatDoor
open Go.ChangeShapes Go.WideShapes Go.ChangeAt Go.RowKit
set_option linter.unusedVariables false
set_option linter.unusedSimpArgs false
theorem append_t1 {ops : Array Oper} {rest : List Oper} {o : Oper} {a : Act} {Q : Exit → Act → World → Prop} {W : World} {lim B : Nat} {v : Value} {l : List Nd} {d : Nd} {u : Value} {S : Nat → Prop} (hgd : o.guard = none) (s x : Operand)
    (ho : o.op = .call { callee := .builtin .append, args := #[s, x], argTypes := #[40, 40] }) (hs : a.eval s = v) (hown : OwnT W lim B v l) (hx : a.eval x = .slice (some ⟨W.heap.size, 0, none⟩) 1 1)
    (hk : KidsS W S u d.ks) (hS : ∀ b, S b → offB W lim B v b) (hB : B ≤ W.heap.size) (hlen : l.length ≤ 1000000)
    (h : ∀ v' w', OwnT w' lim B v' (l ++ [d]) → Below B W w' → wpList Tryz.prog ops Q rest (a.put o.dst v') w') : wpList Tryz.prog ops Q (o :: rest) a (W.alloc (.cells #[.int .i64 d.k, .int .i64 d.n, u] 42)) := by
  refine wpList_plain hgd fun K hK => ?_
  have hb : Below W.heap.size W (W.alloc (.cells #[.int .i64 d.k, .int .i64 d.n, u] 42)) := (Below.refl _ _).alloc (Nat.le_refl _) _
  refine wp_append_t (m := 1) (c := 1) (l2 := [d]) (news := [.int .i64 d.k, .int .i64 d.n, u]) (ad := ⟨W.heap.size, 0, none⟩) s x ho hs (hown.below hb) hx rfl ⟨u, [], rfl, ?_, rfl⟩ ?_ (by simp; omega) (by decide) (by omega) ?_
  · exact hk.carry (fun b hb2 => ⟨⟨Nat.lt_of_lt_of_le (hS b hb2).1 (by simp), (hS b hb2).2⟩, hb.block b (hS b hb2).1⟩)
  · intro j u' hj
    exact World.news_of_block (heap_alloc_new W (.cells #[.int .i64 d.k, .int .i64 d.n, u] 42)) j u' (by simpa using hj)
  · intro v' w' h1 h2
    exact hK _ _ (h v' w' h1 (((Below.refl _ _).alloc hB _).grown h2 (by simp; omega) hown.ownLe))
/-- A row's nodes, and what follows. -/
def mkF : List Nd → Fo → Fo
  | [], r => r
  | d :: l, r => .cons d.k d.n d.ks (mkF l r)
theorem mkF_top : ∀ (l : List Nd) (r : Fo), (mkF l r).top = l ++ r.top
  | [], r => rfl
  | d :: l, r => by simp [mkF, Fo.top, mkF_top l r]
theorem mkF_snoc : ∀ (l : List Nd) (d : Nd) (r : Fo), mkF l (.cons d.k d.n d.ks r) = mkF (l ++ [d]) r
  | [], d, r => rfl
  | e :: l, d, r => by simp [mkF, mkF_snoc l d r]
end Go.Proofs.YtafmiilkdhdngaaGreatDoor
/- dtext's reader: several nodes, and one. -/
namespace Go.Proofs.YtafmiilkdhdngaaGreatDoor
open Go.ChangeShapes Go.WideShapes Go.ChangeAt Go.RowKit
set_option linter.unusedVariables false
set_option linter.unusedSimpArgs false
/-- What node tells. -/
def NodeOk (W : World) (r g : Nat) (A : Option Addr) (n c : Nat) (ts : List ByteArray) (at_ : Nat) (e : Ending) (w' : World) : Prop :=
  But W w' r ∧ ((NT (ts.drop at_) = none ∧ (∃ q, Rdr w' r g A n c ts q) ∧ e = .returned (.tuple #[.agg #[.int .i64 0, .int .i64 0, .slice none 0 0], .bool false])) ∨
    (∃ (k m : Int) (ks : Fo) (q : Nat) (v : Value), NT (ts.drop at_) = some ((k, m, ks), ts.drop q) ∧ at_ < q ∧ Rdr w' r g A n c ts q ∧ e = .returned (.tuple #[.agg #[.int .i64 k, .int .i64 m, v], .bool true]) ∧ KidsS w' (fun b => W.heap.size ≤ b ∧ b < w'.heap.size) v ks))
/-- What several tells. -/
def SevOk (W : World) (r g : Nat) (A : Option Addr) (n c : Nat) (ts : List ByteArray) (at_ : Nat) (e : Ending) (w' : World) : Prop :=
  But W w' r ∧ ((ST (ts.drop at_) = none ∧ (∃ q, Rdr w' r g A n c ts q) ∧ e = .returned (.tuple #[.slice none 0 0, .bool false])) ∨
    (∃ (ks : Fo) (q : Nat) (v : Value), ST (ts.drop at_) = some (ks, ts.drop q) ∧ at_ < q ∧ Rdr w' r g A n c ts q ∧ e = .returned (.tuple #[v, .bool true]) ∧ KidsS w' (fun b => W.heap.size ≤ b ∧ b < w'.heap.size) v ks))
theorem drop_head {ts : List ByteArray} {i : Nat} {t : ByteArray} (h : ts[i]? = some t) : ts.drop i = t :: ts.drop (i + 1) := by
  obtain ⟨h1, h2⟩ := List.getElem?_eq_some_iff.1 h
  rw [List.drop_eq_getElem_cons h1, h2]
theorem drop_not {ts : List ByteArray} {i : Nat} {t : ByteArray} (h : ts[i]? ≠ some t) : ∀ y, ts.drop i ≠ t :: y := fun y e => h (by
  have : (ts.drop i)[0]? = some t := by rw [e]; rfl
  rw [List.getElem?_drop] at this
  simpa using this)
/-- What was read, and what follows. -/
def aft (l : List Nd) : Option (Fo × List ByteArray) → Option (Fo × List ByteArray)
  | none => none
  | some (x, y) => some (mkF l x, y)
theorem aft_none {ts : List ByteArray} {i j : Nat} {l : List Nd} (h : ST (ts.drop i) = aft l (ST (ts.drop j))) (hn : NT (ts.drop j) = none) : ST (ts.drop i) = none := by
  rw [h, show ST (ts.drop j) = none from Gr.S_none HT_less hn]; rfl
theorem aft_end {ts : List ByteArray} {i j q : Nat} {l : List Nd} {k m : Int} {ks : Fo} (h : ST (ts.drop i) = aft l (ST (ts.drop j))) (hn : NT (ts.drop j) = some ((k, m, ks), ts.drop q)) (hz : ts[q]? ≠ some cmB) : ST (ts.drop i) = some (mkF l (.cons k m ks .nil), ts.drop q) := by
  rw [h, show ST (ts.drop j) = _ from Gr.S_end HT_less hn (drop_not hz)]; rfl
theorem aft_more {ts : List ByteArray} {i j q : Nat} {l : List Nd} {k m : Int} {ks : Fo} (h : ST (ts.drop i) = aft l (ST (ts.drop j))) (hn : NT (ts.drop j) = some ((k, m, ks), ts.drop q)) (hz : ts[q]? = some cmB) : ST (ts.drop i) = aft (l ++ [⟨k, m, ks⟩]) (ST (ts.drop (q + 1))) := by
  have e := Gr.S_more (op := opB) (cl := clB) (cm := cmB) (z := ts.drop (q + 1)) HT_less (by rw [← drop_head hz]; exact hn)
  rw [h, show ST (ts.drop j) = _ from e]
  show aft l _ = aft _ (Gr.S HT opB clB cmB (ts.drop (q + 1)))
  rcases Gr.S HT opB clB cmB (ts.drop (q + 1)) with _ | ⟨x, y⟩
  · rfl
  · show some (mkF l (.cons k m ks x), y) = some (mkF (l ++ [⟨k, m, ks⟩]) x, y)
    rw [mkF_snoc l ⟨k, m, ks⟩ x]
theorem aft_nil {ts : List ByteArray} {i : Nat} : ST (ts.drop i) = aft [] (ST (ts.drop i)) := by
  rcases ST (ts.drop i) with _ | ⟨x, y⟩ <;> rfl
theorem But.grow {W w2 w3 : World} {r : Nat} (h : But W w2 r) (hb : Below W.heap.size w2 w3) : But W w3 r :=
  ⟨fun x hx hne => (hb.block x hx).trans (h.o x hx hne), Nat.le_trans h.z hb.size, fun H h1 h2 => (h.b H h1 h2).trans (hb.mono h2)⟩
/-- The reader's place. -/
def rAt (w : World) (r : Nat) : Nat := match w.cell? ⟨r, 1, none⟩ with
  | some (.int _ i) => i.toNat
  | _ => 0
theorem Rdr.at {w : World} {r g : Nat} {A : Option Addr} {n c : Nat} {ts : List ByteArray} {at_ : Nat} (h : Rdr w r g A n c ts at_) : rAt w r = at_ := by
  unfold rAt; rw [h.c1]; rfl

set_option maxRecDepth 100000 in
set_option maxHeartbeats 8000000 in
theorem d_several (N r g : Nat) (A : Option Addr) (n c : Nat) (ts : List ByteArray)
    (IH : ∀ (at_ : Nat) (W : World), n - at_ < N → Rdr W r g A n c ts at_ → Calls Tryz.prog 73 #[.pointer (some ⟨r, 0, none⟩)] W (NodeOk W r g A n c ts at_))
    (at_ : Nat) (W : World) (hN : n - at_ < N) (hR : Rdr W r g A n c ts at_) :
    Calls Tryz.prog 95 #[.pointer (some ⟨r, 0, none⟩), .func (.func 73) #[.pointer (some ⟨r, 0, none⟩)] #[]] W (SevOk W r g A n c ts at_) := by
  have hrW := hR.lt
  have hn5 := hR.hn
  have HI := Lib.hid IH
  have hgW : n = 0 ∨ g < W.heap.size := hR.hgl
  have H0 := Lib.hid hR
  clear IH hR
  go_enter Tryz.func95, Tryz.ntmps95
  go_wp2
  go_loopw [6] (fun x wr => ∃ (i : Nat) (l : List Nd) (sv : Value) (wx : World), sv = x ∧ wx = wr ∧ at_ ≤ i ∧ Hid (ST (ts.drop at_) = aft l (ST (ts.drop i))) ∧ Hid (Rdr wr r g A n c ts i) ∧ Hid (OwnT wr 0 W.heap.size x l) ∧ Hid (But W wr r) ∧ Hid (l.length ≤ i)) (fun _ wr => n - rAt wr r)
  case atStart => exact ⟨at_, [], _, _, rfl, rfl, Nat.le_refl _, Lib.hid aft_nil, H0, Lib.hid (OwnT.nil _ _ _), Lib.hid (But.refl _ _), Lib.hid (Nat.zero_le _)⟩
  case round =>
    obtain ⟨i, l, v, wr, rfl, rfl, hai, HE, HR, HO, HB, HL⟩ := hrel
    have hzr := HB.out.z
    have C := HI.out i wr (by omega) HR.out
    have hra := HR.out.at
    go_wp2_with fail
    refine C.mono ?_
    rintro e w1 ⟨hB1, hcase⟩
    rcases hcase with ⟨hn1, ⟨q, hR1⟩, rfl⟩ | ⟨k, m, ks, q, u, hn1, hiq, hR1, rfl, hK1⟩
    · have hS := Lib.hid (aft_none HE.out hn1)
      have HB1 := Lib.hid (HB.out.trans hB1)
      have HR1 := Lib.hid hR1
      clear hn1 hB1 hR1 C
      go_wp2_with fail
      go_ret2
      have ha := (Below.refl w1.heap.size w1).alloc (Nat.le_refl _) (.cells #[.int .i64 0, .int .i64 0, .slice none 0 0] 42)
      exact ⟨HB1.out.trans (But.of_below r ha), .inl ⟨hS.out, ⟨q, HR1.out.belowAll ha⟩, rfl⟩⟩
    · obtain ⟨ua, un, uc, rfl⟩ : ∃ a n c, u = .slice a n c := by
        obtain ⟨a, c, rfl, _⟩ := hK1
        exact ⟨_, _, _, rfl⟩
      have hz1 := hB1.z
      have hO1 : OwnT w1 0 W.heap.size v l := HO.out.keep hB1 (Nat.zero_le _) hrW
      have hown := HO.out.ownLt
      obtain ⟨w2, hw2, c0, c1, c2, hB2, hs2⟩ := box3 w1 k m (.slice ua un uc) 42
      have hO2 : OwnT w2 0 W.heap.size v l := hO1.below hB2
      have hR2 := hR1.belowAll hB2
      have hK2 : KidsS w2 (fun b => wr.heap.size ≤ b ∧ b < w1.heap.size) (.slice ua un uc) ks := hK1.carry (fun b hb => ⟨hb, hB2.block b hb.2⟩)
      have hoff : ∀ b, (wr.heap.size ≤ b ∧ b < w1.heap.size) → offB w2 0 W.heap.size v b := fun b hb => ⟨by omega, fun e => by have := hown b e; omega, .inr (by omega)⟩
      have hll : l.length ≤ 1000000 := by
        have := HL.out; have := hR1.hm; omega
      have HB2 := Lib.hid ((HB.out.trans hB1).trans (But.of_below r hB2))
      have HR2 := Lib.hid hR2
      have HN1 := Lib.hid hn1
      have hsz2 : W.heap.size ≤ w2.heap.size := by omega
      have hqn := hR1.hm
      clear C hO1 hown hB2 hR2 hR1 hK1 hn1 HR HB HO hB1
      have HW2 := Lib.hid hw2
      clear hw2
      go_wp2_with (at_builtin; rw [← HW2.out]; refine append_t1 (d := ⟨k, m, ks⟩) rfl _ _ rfl rfl hO2 (by rw [hs2]; rfl) hK2 hoff hsz2 hll ?_; intro v3 w3 hO3 hb3)
      have hR3 : Rdr w3 r g A n c ts q := HR2.out.below hb3 hrW hgW
      have hB3 : But W w3 r := HB2.out.grow hb3
      have hK3 := fun (x : Fo) (hx : x.top = l ++ [⟨k, m, ks⟩]) (w4 : World) (hb4 : But w3 w4 r) => (OwnT.kidsS (f := x) (by rw [hx]; exact hO3.keep hb4 (Nat.zero_le _) hrW) : KidsS w4 (fun b => b < w4.heap.size ∧ (b < 0 ∨ W.heap.size ≤ b)) v3 x)
      have C4 := r_is hR3 cmB
      obtain ⟨va, vn, vc, rfl⟩ := hO3.form
      by_cases hz : ts[q]? = some cmB
      · rw [decide_eq_true hz, if_pos hz] at C4
        have HE2 := Lib.hid (aft_more HE.out HN1.out hz)
        have HO3 := Lib.hid hO3
        have HB3 := Lib.hid hB3
        have HL2 : Hid ((l ++ [(⟨k, m, ks⟩ : Nd)]).length ≤ q + 1) := Lib.hid (by
          have := HL.out
          rw [List.length_append]; simp; omega)
        have hlt : q < n := by
          have h1 := hR3.hl
          have h2 := (List.getElem?_eq_some_iff.1 hz).1
          omega
        clear hO2 hK2 hoff hK3 hO3 hB3 hb3 HE HN1 HL hR3 HB2 HR2 hz c0 c1 c2
        go_wp2_with fail
        refine C4.mono ?_
        rintro e w4 ⟨hB4, hz4, rfl, hR4⟩
        have hr4 := hR4.at
        go_wp2_with fail
        go_roundw
        case rel => exact ⟨q + 1, l ++ [⟨k, m, ks⟩], _, _, rfl, rfl, by omega, HE2, Lib.hid hR4, Lib.hid (HO3.out.keep hB4 (Nat.zero_le _) hrW), Lib.hid (HB3.out.trans hB4), HL2⟩
        case measure => rw [hr4, hra]; omega
      · rw [decide_eq_false hz, if_neg hz] at C4
        have HE2 := Lib.hid (aft_end HE.out HN1.out hz)
        have HB3 := Lib.hid hB3
        have HK3 := Lib.hid hK3
        clear hO2 hK2 hoff hK3 hO3 hB3 hb3 HE HN1 HL hR3 HB2 HR2 hz c0 c1 c2
        go_wp2_with fail
        refine C4.mono ?_
        rintro e w4 ⟨hB4, hz4, rfl, hR4⟩
        go_wp2_with fail
        go_ret2
        refine ⟨HB3.out.trans hB4, .inr ⟨_, q, _, HE2.out, by omega, hR4, rfl, (HK3.out _ (by rw [mkF_top]; rfl) w4 hB4).carry (fun b hb => ⟨⟨?_, hb.1⟩, rfl⟩)⟩⟩
        rcases hb.2 with h | h
        · omega
        · exact h
end Go.Proofs.YtafmiilkdhdngaaGreatDoor
