/- The tokens of a tree's text. -/
import Derived.Test.YtakhgjhnljbfiaaGreatDoorTxt
namespace Go.Proofs.YtakhgjhnljbfiaaGreatDoor
open Go.ChangeShapes Go.WideShapes Go.ChangeAt Go.RowKit
set_option linter.unusedVariables false
set_option linter.unusedSimpArgs false

/-- Tokens lie one behind the other. -/
def Ch : Nat → List (Int × Nat × Nat) → Nat → Prop
  | a, [], n => a = n
  | a, (_, x, y) :: r, n => x = a ∧ x ≤ y ∧ Ch y r n
theorem Ch.le : ∀ {l : List (Int × Nat × Nat)} {a n : Nat}, Ch a l n → a ≤ n
  | [], _, _, h => by unfold Ch at h; omega
  | (_, x, y) :: r, a, n, h => by
    unfold Ch at h
    have := Ch.le h.2.2
    omega
theorem Ch.snoc : ∀ {l : List (Int × Nat × Nat)} {a n : Nat} (k : Int) (m : Nat), Ch a l n → n ≤ m → Ch a (l ++ [(k, n, m)]) m
  | [], a, n, k, m, h, hm => by unfold Ch at h; subst h; exact ⟨rfl, hm, rfl⟩
  | (_, x, y) :: r, a, n, k, m, h, hm => ⟨h.1, h.2.1, Ch.snoc k m h.2.2 hm⟩
theorem Ch.init : ∀ {l : List (Int × Nat × Nat)} {a n b : Nat} {k : Int} {x : Nat}, Ch a (l ++ [(k, x, b)]) n → Ch a l x ∧ x ≤ b ∧ b = n
  | [], a, n, b, k, x, h => by
    simp only [List.nil_append] at h
    unfold Ch at h
    obtain ⟨h1, h2, h3⟩ := h
    unfold Ch at h3
    exact ⟨h1.symm, h2, h3⟩
  | (_, p, q) :: r, a, n, b, k, x, h => by
    have h' : p = a ∧ p ≤ q ∧ Ch q (r ++ [(k, x, b)]) n := h
    obtain ⟨h4, h5⟩ := Ch.init h'.2.2
    exact ⟨⟨h'.1, h'.2.1, h4⟩, h5⟩
theorem tk_ch {s : ByteArray} : ∀ {i : Nat} {l : List (Int × Nat × Nat)}, tk s i = some l → Ch 0 l i := by
  intro i
  induction i with
  | zero => intro l h; simp [tk] at h; subst h; rfl
  | succ i ih =>
    intro l h
    simp only [tk] at h
    cases hp : tk s i with
    | none => simp [hp] at h
    | some m =>
      simp only [hp] at h
      have hm := ih hp
      by_cases h0 : kd (bt s i) = 0
      · simp [h0] at h
      · simp only [h0, if_false] at h
        rcases List.eq_nil_or_concat m with hnil | ⟨t, ⟨k, a, b⟩, hcon⟩
        · subst hnil
          simp only [List.getLast?_nil, Option.some.injEq] at h
          subst h
          exact hm.snoc _ _ (Nat.le_succ _)
        · rw [List.concat_eq_append] at hcon
          subst hcon
          simp only [List.getLast?_concat] at h
          split at h
          · simp only [Option.some.injEq, List.dropLast_concat] at h
            subst h
            obtain ⟨h1, h2, h3⟩ := hm.init
            exact h1.snoc k (i + 1) (by omega)
          · simp only [Option.some.injEq] at h
            subst h
            exact hm.snoc _ _ (Nat.le_succ _)

def ext (s : ByteArray) (l : List (Int × Nat × Nat)) : List ByteArray := l.map fun x => s.extract x.2.1 x.2.2
theorem flat_ext (s : ByteArray) : ∀ {l : List (Int × Nat × Nat)} {a n : Nat}, Ch a l n → flat (ext s l) = (s.data.toList.take n).drop a
  | [], a, n, h => by
    unfold Ch at h
    subst h
    show [] = _
    rw [List.drop_take]; simp
  | (k, x, y) :: r, a, n, h => by
    unfold Ch at h
    obtain ⟨rfl, hy, hr⟩ := h
    have hn := hr.le
    have ih := flat_ext s hr
    show flat ([s.extract x y] ++ ext s r) = _
    rw [flat_app, ih]
    show flat [s.extract x y] ++ _ = _
    have e1 : flat [s.extract x y] = (s.data.toList.drop x).take (y - x) := by
      simp only [flat, List.flatMap_cons, List.flatMap_nil, List.append_nil]
      rw [Lib.extract_data]
    rw [e1, List.drop_take, List.drop_take, show n - x = (y - x) + (n - y) by omega, List.take_add, List.drop_drop, show x + (y - x) = y by omega]

/-- One token's bytes. -/
def Pc (c : Int) (t : ByteArray) : Prop := 1 ≤ t.size ∧ (∀ b ∈ t.data.toList, kd (b.toNat : Int) = c) ∧ c ≠ 0 ∧ (c = 3 → t.size = 1)
theorem piece_run {s : ByteArray} {i : Nat} {c : Int} {l : List (Int × Nat × Nat)} (h0 : c ≠ 0) (h3 : c < 3) : ∀ (m j : Nat), tk s j = some (l ++ [(c, i, j)]) → (∀ x, j ≤ x → x < j + m → kd (bt s x) = c) → tk s (j + m) = some (l ++ [(c, i, j + m)]) := by
  intro m
  induction m with
  | zero => intro j h _; exact h
  | succ m ih =>
    intro j h hk
    have h1 := tk_more h h0 h3 (hk j (Nat.le_refl _) (by omega))
    have := ih (j + 1) h1 (fun x hx hy => hk x (by omega) (by omega))
    rw [show j + (m + 1) = j + 1 + m by omega]
    exact this
theorem piece_step {s t : ByteArray} {i : Nat} {c : Int} {l : List (Int × Nat × Nat)} {rest : List UInt8} (h : tk s i = some l) (hl : ∀ k a b, l.getLast? = some (k, a, b) → c = 3 ∨ k ≠ c) (hp : Pc c t) (he : s.data.toList.drop i = t.data.toList ++ rest) :
    tk s (i + t.size) = some (l ++ [(c, i, i + t.size)]) ∧ s.extract i (i + t.size) = t ∧ i + t.size ≤ s.size := by
  obtain ⟨h1, hk, h0, h3⟩ := hp
  have hlen := congrArg List.length he
  rw [List.length_drop, List.length_append, ← Lib.size_eq, ← Lib.size_eq] at hlen
  have hle : i + t.size ≤ s.size := by omega
  have hb : ∀ x, i ≤ x → x < i + t.size → kd (bt s x) = c := fun x hx hy => by
    have e1 := bt_list s x (by omega)
    have e2 : (s.data.toList.drop i)[x - i]? = s.data.toList[x]? := by rw [List.getElem?_drop, show i + (x - i) = x by omega]
    rw [he, List.getElem?_append_left (by rw [← Lib.size_eq]; omega), e1.1] at e2
    rw [e1.2]
    exact hk _ (List.mem_of_getElem? e2)
  refine ⟨?_, ?_, hle⟩
  · have hb0 := hb i (Nat.le_refl _) (by omega)
    have hpush := tk_push h (by rw [hb0]; exact h0) (fun k a b e => by rw [hb0]; exact hl k a b e)
    rw [hb0] at hpush
    by_cases e3 : c = 3
    · rw [h3 e3]; exact hpush
    · have hlt : c < 3 := by
        have := kd_le (bt s i); rw [hb0] at this; omega
      have := piece_run h0 hlt (t.size - 1) (i + 1) hpush (fun x hx hy => hb x (by omega) (by omega))
      rw [show i + 1 + (t.size - 1) = i + t.size by omega] at this
      exact this
  · apply ba_ext
    rw [Lib.extract_data, he, show i + t.size - i = t.size by omega, Lib.size_eq, List.take_left]
def Alt : Int → List ByteArray → Prop
  | _, [] => True
  | p, t :: r => ∃ c, Pc c t ∧ (c = 3 ∨ p ≠ c) ∧ Alt c r
theorem tk_alt {s : ByteArray} : ∀ (ps : List ByteArray) (p : Int) (i : Nat) (l : List (Int × Nat × Nat)), i ≤ s.size → tk s i = some l → (∀ k a b, l.getLast? = some (k, a, b) → k = p) → Alt p ps → s.data.toList.drop i = flat ps → ∃ l', tk s s.size = some (l ++ l') ∧ ext s l' = ps
  | [], p, i, l, hi, h, _, _, he => by
    have hlen := congrArg List.length he
    rw [List.length_drop, ← Lib.size_eq] at hlen
    have : i = s.size := by
      have : (flat []).length = 0 := rfl
      omega
    subst this
    exact ⟨[], by rw [List.append_nil]; exact h, rfl⟩
  | t :: r, p, i, l, hi, h, hl, ⟨c, hp, hc, ha⟩, he => by
    have he2 : s.data.toList.drop i = t.data.toList ++ flat r := by rw [he]; rfl
    obtain ⟨h1, h2, h3⟩ := piece_step h (fun k a b e => by
      rcases hc with hc | hc
      · exact .inl hc
      · exact .inr (by rw [hl k a b e]; exact hc)) hp he2
    obtain ⟨l', h4, h5⟩ := tk_alt r c (i + t.size) _ h3 h1 (fun k a b e => by
      rw [List.getLast?_concat] at e
      simp only [Option.some.injEq, Prod.mk.injEq] at e
      exact e.1.symm) ha (by rw [← List.drop_drop, he2, Lib.size_eq, List.drop_left])
    refine ⟨(c, i, i + t.size) :: l', ?_, ?_⟩
    · rw [h4]; simp
    · show s.extract i (i + t.size) :: ext s l' = _
      rw [h2, h5]
theorem wrd_kd : ∀ i : Fin 8, i.val ≠ 0 → ((wrd i.val).data.toList.all fun b => decide (kd (b.toNat : Int) = 1)) = true := by decide +kernel
theorem pc_wrd {k : Int} (h : 1 ≤ k ∧ k ≤ 7) : Pc 1 (wrd k) := by
  refine ⟨by rw [Lib.size_eq]; exact wrd_len h, fun b hb => ?_, by decide, fun e => by cases e⟩
  have := wrd_kd ⟨k.toNat, by omega⟩ (by show k.toNat ≠ 0; omega)
  rw [show (((⟨k.toNat, by omega⟩ : Fin 8).val : Nat) : Int) = k from Int.toNat_of_nonneg (by omega)] at this
  exact of_decide_eq_true (List.all_eq_true.1 this b hb)
theorem pc_dig {n : Nat} (h : n ≤ 999999999) : Pc 2 ⟨(Lib.decDigits n).toArray⟩ := by
  have hl := dec_len h
  refine ⟨by rw [Lib.size_eq]; simpa using hl.1, fun b hb => ?_, by decide, fun e => by cases e⟩
  have := dec_dig n b (by simpa using hb)
  unfold kd
  rw [if_neg (by omega), if_pos (by omega)]
theorem pc_op : Pc 3 opB := ⟨by decide, by decide, by decide, fun _ => rfl⟩
theorem pc_cl : Pc 3 clB := ⟨by decide, by decide, by decide, fun _ => rfl⟩
theorem pc_cm : Pc 3 cmB := ⟨by decide, by decide, by decide, fun _ => rfl⟩
theorem alt_tx : ∀ (x : Fo) (p : Int) (tail : List ByteArray), x.okT → x.len ≠ 0 → p ≠ 1 → (∀ q, q = 2 ∨ q = 3 → Alt q tail) → Alt p (txT x ++ tail) := by
  intro x
  induction x with
  | nil => intro p tail _ h; simp [Fo.len] at h
  | cons k n ks r ihk ihr =>
    intro p tail ho _ hp ht
    obtain ⟨⟨hk, h0, h9⟩, hok, hor⟩ := ho
    have hB : ∀ q, q = 2 ∨ q = 3 → Alt q ((if r.len = 0 then [] else cmB :: Gr.tx hdT opB clB cmB r) ++ tail) := fun q hq => by
      by_cases hr : r.len = 0
      · rw [if_pos hr]; exact ht q hq
      · rw [if_neg hr]
        exact ⟨3, pc_cm, .inl rfl, ihr 3 tail hor hr (by decide) ht⟩
    unfold txT
    rw [Gr.tx]
    refine ⟨1, pc_wrd hk, .inr hp, 2, pc_dig (by omega), .inr (by decide), ?_⟩
    show Alt 2 (([] ++ (_ ++ _)) ++ tail)
    rw [List.nil_append, List.append_assoc]
    by_cases hk : ks.len = 0
    · rw [if_pos hk]; exact hB 2 (.inl rfl)
    · rw [if_neg hk]
      refine ⟨3, pc_op, .inl rfl, ?_⟩
      show Alt 3 ((txT ks ++ [clB]) ++ _)
      rw [List.append_assoc]
      exact ihk 3 _ hok hk (by decide) (fun q _ => ⟨3, pc_cl, .inl rfl, hB 3 (.inr rfl)⟩)
theorem tk_tx {s : ByteArray} {k n : Int} {ks : Fo} (h : (Fo.cons k n ks .nil).okT) (e : s.data.toList = txB (.cons k n ks .nil)) : ∃ l, tk s s.size = some l ∧ ext s l = txT (.cons k n ks .nil) := by
  have ha := alt_tx _ 0 [] h (by simp [Fo.len]) (by decide) (fun _ _ => trivial)
  rw [List.append_nil] at ha
  obtain ⟨l, h1, h2⟩ := tk_alt (s := s) _ 0 0 [] (Nat.zero_le _) rfl (by simp) ha (by rw [List.drop_zero, txT_flat]; exact e)
  exact ⟨l, h1, h2⟩
theorem NT_what {s : ByteArray} {l : List (Int × Nat × Nat)} (hl : tk s s.size = some l) (k n : Int) (ks : Fo) : NT (ext s l) = some ((k, n, ks), []) ↔ (Fo.cons k n ks .nil).okT ∧ s.data.toList = txB (.cons k n ks .nil) := by
  constructor
  · intro h
    obtain ⟨h1, h2⟩ := NT_sound h
    refine ⟨h1, ?_⟩
    have := flat_ext s (tk_ch hl)
    rw [h2, txT_flat, List.drop_zero, Lib.size_eq, List.take_length] at this
    exact this.symm
  · rintro ⟨h1, h2⟩
    obtain ⟨l', h3, h4⟩ := tk_tx h1 h2
    rw [h3] at hl
    obtain rfl := Option.some.inj hl
    rw [h4]
    exact NT_all h1
theorem tk_none_tx {s : ByteArray} (hl : tk s s.size = none) (k n : Int) (ks : Fo) : ¬ ((Fo.cons k n ks .nil).okT ∧ s.data.toList = txB (.cons k n ks .nil)) := by
  rintro ⟨h1, h2⟩
  obtain ⟨l', h3, -⟩ := tk_tx h1 h2
  rw [h3] at hl; cases hl
theorem tx_cntB {k n : Int} {ks : Fo} (h : (Fo.cons k n ks .nil).okT) : ks.cnt + 1 ≤ (txB (.cons k n ks .nil)).length := by
  have := tx_cnt (op := (40 : UInt8)) (cl := 41) (cm := 44) hdB_len _ h
  simpa [Fo.cnt, txB] using this
end Go.Proofs.YtakhgjhnljbfiaaGreatDoor
