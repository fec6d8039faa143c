/- Put together by program (merge2.py): Rtn Namc Cmpt Cmpd. -/
import Derived.Test.YtmbcfijhlpeddaaDoorD11
import Derived.Test.YtmbcfijhlpeddaaDoorG5
/- Reference 23's node: the numbers. -/
namespace Go.Proofs.YtmbcfijhlpeddaaDoor
open Go.ChangeShapes Go.WideShapes Go.ChangeAt Go.RowKit
set_option linter.unusedVariables false
set_option linter.unusedSimpArgs false
theorem pre_ext {s w : ByteArray} {i : Nat} (h : i + w.size ≤ s.size) : s.extract i (i + w.size) = w ↔ w.data.toList <+: s.data.toList.drop i := by
  have e : (s.extract i (i + w.size)).data.toList = (s.data.toList.drop i).take w.data.toList.length := by
    rw [Lib.extract_data, show i + w.size - i = w.size by omega, Lib.size_eq]
  constructor
  · intro he
    rw [he] at e
    exact List.prefix_iff_eq_take.2 e
  · intro hp
    exact ba_ext (e.trans (List.prefix_iff_eq_take.1 hp).symm)
theorem pre_long {s w : ByteArray} {i : Nat} (hi : i ≤ s.size) (h : ¬ i + w.size ≤ s.size) : ¬ w.data.toList <+: s.data.toList.drop i := fun hp => by
  have := hp.length_le
  rw [List.length_drop, ← Lib.size_eq, ← Lib.size_eq] at this
  omega
theorem cut_at (s : ByteArray) {a b : Nat} (h1 : a ≤ b) : s.data.toList.drop a = (s.extract a b).data.toList ++ s.data.toList.drop b := by
  rw [Lib.extract_data]
  conv => lhs; rw [← List.take_append_drop (b - a) (s.data.toList.drop a)]
  rw [List.drop_drop, show a + (b - a) = b by omega]
theorem bt_drop {s : ByteArray} {i : Nat} (h : i < s.size) : ∃ c y, s.data.toList.drop i = c :: y ∧ c.toNat = bt s i ∧ y = s.data.toList.drop (i + 1) := by
  have h1 := bt_list s i h
  have hl : i < s.data.toList.length := by rw [← Lib.size_eq]; exact h
  refine ⟨_, _, List.drop_eq_getElem_cons hl, ?_, rfl⟩
  rw [h1.2]
  have := h1.1
  rw [List.getElem?_eq_getElem hl] at this
  rw [Option.some.inj this]
theorem ext_dig {s : ByteArray} {a b : Nat} (hb : b ≤ s.size) (h : ∀ j, a ≤ j → j < b → 48 ≤ bt s j ∧ bt s j ≤ 57) : ∀ x ∈ (s.extract a b).data.toList, 48 ≤ x.toNat ∧ x.toNat ≤ 57 := fun x hx => by
  rw [Lib.extract_data] at hx
  obtain ⟨i, hi, e⟩ := List.getElem_of_mem hx
  rw [List.length_take, List.length_drop, ← Lib.size_eq] at hi
  rw [List.getElem_take, List.getElem_drop] at e
  have h1 := bt_list s (a + i) (by omega)
  have h2 := h1.1
  rw [List.getElem?_eq_getElem (by rw [← Lib.size_eq]; omega), e] at h2
  have := h (a + i) (by omega) (by omega)
  rw [h1.2, ← Option.some.inj h2] at this
  exact this
/-- A run of digits ends here. -/
def Ends (s : ByteArray) (b : Nat) : Prop := b = s.size ∨ (b < s.size ∧ ¬ (48 ≤ bt s b ∧ bt s b ≤ 57))
theorem Ends.out {s : ByteArray} {b : Nat} (h : Ends s b) : ∀ c y, s.data.toList.drop b = c :: y → ¬ (48 ≤ c.toNat ∧ c.toNat ≤ 57) := fun c y e => by
  rcases h with rfl | ⟨h1, h2⟩
  · rw [Lib.size_eq, List.drop_length] at e; cases e
  · obtain ⟨c', y', e', hc, -⟩ := bt_drop h1
    rw [e'] at e
    simp only [List.cons.injEq] at e
    rw [← e.1, hc]; exact h2
theorem head_yes {s : ByteArray} {K : Int} {i a b : Nat} (hK : 1 ≤ K ∧ K ≤ 7) (hp : (wrd K).data.toList <+: s.data.toList.drop i) (ha : a = i + (wrd K).size) (hab : a ≤ b) (he : Ends s b) (hn : IsN (s.extract a b)) :
    HB (s.data.toList.drop i) = some (K, ((vl (s.extract a b) (s.extract a b).size : Nat) : Int), s.data.toList.drop b) := by
  have h1 := isNL_dec ((isN_list _).1 hn)
  rw [← vl_all] at h1
  refine HB_yes ⟨⟨hK, by omega, by omega⟩, ?_, he.out⟩
  unfold hdB
  rw [Int.toNat_natCast, h1.1, List.append_assoc, ← cut_at s hab, ha, Lib.size_eq, ← List.drop_drop]
  obtain ⟨r, hr⟩ := hp
  rw [← hr, List.drop_left]
theorem head_word {s : ByteArray} {i : Nat} (h : ∀ k : Int, 1 ≤ k → k < 8 → ¬ (wrd k).data.toList <+: s.data.toList.drop i) : HB (s.data.toList.drop i) = none := HB_no (fun k n z hx => by
  refine h k hx.1.1.1 (by have := hx.1.1.2; omega) ⟨Lib.decDigits n.toNat ++ z, ?_⟩
  rw [hx.2.1, hdB, List.append_assoc])
theorem head_num {s : ByteArray} {K : Int} {i a b : Nat} (hK : 1 ≤ K ∧ K ≤ 7) (hp : (wrd K).data.toList <+: s.data.toList.drop i) (ha : a = i + (wrd K).size) (hab : a ≤ b) (hb : b ≤ s.size) (he : Ends s b) (hd : ∀ j, a ≤ j → j < b → 48 ≤ bt s j ∧ bt s j ≤ 57) (hn : ¬ IsN (s.extract a b)) :
    HB (s.data.toList.drop i) = none := HB_no (fun k n z hx => by
  obtain ⟨⟨hk, h0, h9⟩, e, hz⟩ := hx
  unfold hdB at e
  obtain rfl := wrd_front hK hk hp ⟨_, by rw [e, List.append_assoc]⟩
  have e2 : s.data.toList.drop a = (Lib.decDigits n.toNat) ++ z := by
    rw [ha, Lib.size_eq, ← List.drop_drop, e, List.append_assoc, List.drop_left]
  rw [cut_at s hab] at e2
  have := run_uniq e2 (ext_dig hb hd) (dec_dig _) he.out hz
  refine hn ((isN_list _).2 ?_)
  rw [this.1]
  exact (dec_isNL (by omega)).1)
def aftB (l : List Nd) : Option (Fo × List UInt8) → Option (Fo × List UInt8)
  | none => none
  | some (x, y) => some (mkF l x, y)
/-- What is still to be looked at behind some nodes. -/
noncomputable def rstB (l : List Nd) : List UInt8 → Option (Fo × List UInt8)
  | [] => some (mkF l .nil, [])
  | c :: y => if c = 44 then aftB l (SB y) else some (mkF l .nil, c :: y)
theorem aftB_nil (z : List UInt8) : SB z = aftB [] (SB z) := by rcases SB z with _ | ⟨x, y⟩ <;> rfl
theorem aftB_none {z : List UInt8} {l : List Nd} (h : NB z = none) : aftB l (SB z) = none := by
  rw [show SB z = none from Gr.S_none HB_less h]; rfl
theorem aftB_step {z y : List UInt8} {l : List Nd} {k m : Int} {ks : Fo} (h : NB z = some ((k, m, ks), y)) : aftB l (SB z) = rstB (l ++ [⟨k, m, ks⟩]) y := by
  cases y with
  | nil =>
    rw [show SB z = _ from Gr.S_end HB_less h (by simp)]
    show some (mkF l (.cons k m ks .nil), []) = some (mkF (l ++ [⟨k, m, ks⟩]) .nil, [])
    rw [mkF_snoc l ⟨k, m, ks⟩ .nil]
  | cons c y =>
    by_cases hc : c = 44
    · subst hc
      rw [show SB z = _ from Gr.S_more HB_less h]
      show aftB l _ = aftB (l ++ [⟨k, m, ks⟩]) (Gr.S HB 40 41 44 y)
      rcases Gr.S HB 40 41 44 y with _ | ⟨x, y'⟩
      · rfl
      · show some (mkF l (.cons k m ks x), y') = some (mkF (l ++ [⟨k, m, ks⟩]) x, y')
        rw [mkF_snoc l ⟨k, m, ks⟩ x]
    · rw [show SB z = _ from Gr.S_end HB_less h (fun y' e => hc (by simp only [List.cons.injEq] at e; exact e.1))]
      show some (mkF l (.cons k m ks .nil), c :: y) = if c = 44 then _ else some (mkF (l ++ [⟨k, m, ks⟩]) .nil, c :: y)
      rw [if_neg hc, mkF_snoc l ⟨k, m, ks⟩ .nil]
theorem u8_of {c : UInt8} {n : Nat} (h : n < 256) (e : c.toNat = n) : c = UInt8.ofNat n := UInt8.toNat_inj.1 (by rw [e, UInt8.toNat_ofNat']; omega)
/-- At a comma the next one is read. -/
theorem rst_comma {s : ByteArray} {t : Nat} {l : List Nd} (h : t < s.size) (hc : bt s t = 44) : rstB l (s.data.toList.drop t) = aftB l (SB (s.data.toList.drop (t + 1))) := by
  obtain ⟨c, y, e, e1, e2⟩ := bt_drop h
  rw [e, rstB, if_pos (show c = 44 from u8_of (by decide) (e1.trans hc)), e2]
theorem rst_end {s : ByteArray} {t : Nat} {l : List Nd} (h : t = s.size ∨ (t < s.size ∧ bt s t ≠ 44)) : rstB l (s.data.toList.drop t) = some (mkF l .nil, s.data.toList.drop t) := by
  rcases h with rfl | ⟨h, hc⟩
  · rw [Lib.size_eq, List.drop_length]; rfl
  · obtain ⟨c, y, e, e1, e2⟩ := bt_drop h
    rw [e, rstB, if_neg (fun e3 => hc (by rw [← e1, e3]; rfl))]
theorem nb_leaf {s : ByteArray} {i t : Nat} {k m : Int} (h : HB (s.data.toList.drop i) = some (k, m, s.data.toList.drop t)) (ht : t = s.size ∨ (t < s.size ∧ bt s t ≠ 40)) : NB (s.data.toList.drop i) = some ((k, m, .nil), s.data.toList.drop t) :=
  Gr.N_leaf h (fun y e => by
    rcases ht with rfl | ⟨h1, h2⟩
    · rw [Lib.size_eq, List.drop_length] at e; cases e
    · obtain ⟨c, y', e', e1, -⟩ := bt_drop h1
      rw [e'] at e
      simp only [List.cons.injEq] at e
      exact h2 (by rw [← e1, e.1]; rfl))
theorem nb_open {s : ByteArray} {i t : Nat} {k m : Int} (h : HB (s.data.toList.drop i) = some (k, m, s.data.toList.drop t)) (h1 : t < s.size) (h2 : bt s t = 40) : NB (s.data.toList.drop i) = (match SB (s.data.toList.drop (t + 1)) with | some (ks, c :: y) => if c = 41 then some ((k, m, ks), y) else none | _ => none) := by
  obtain ⟨c, y', e', e1, e2⟩ := bt_drop h1
  rw [e', (show c = 40 from u8_of (by decide) (e1.trans h2)), e2] at h
  have := Gr.N_open (op := 40) (cl := 41) (cm := 44) h
  rw [show NB (s.data.toList.drop i) = _ from this]
  show _ = (match Gr.S HB 40 41 44 (s.data.toList.drop (t + 1)) with | some (ks, c :: y) => if c = 41 then some ((k, m, ks), y) else none | _ => none)
  rcases Gr.S HB 40 41 44 (s.data.toList.drop (t + 1)) with _ | ⟨ks, _ | ⟨c, y⟩⟩ <;> rfl
theorem nb_close {s : ByteArray} {i t q : Nat} {k m : Int} {ks : Fo} (h : NB (s.data.toList.drop i) = (match SB (s.data.toList.drop (t + 1)) with | some (ks, c :: y) => if c = 41 then some ((k, m, ks), y) else none | _ => none)) (hs : SB (s.data.toList.drop (t + 1)) = some (ks, s.data.toList.drop q)) (h1 : q < s.size) (h2 : bt s q = 41) :
    NB (s.data.toList.drop i) = some ((k, m, ks), s.data.toList.drop (q + 1)) := by
  obtain ⟨c, y', e', e1, e2⟩ := bt_drop h1
  rw [h, hs, e', u8_of (by decide) (e1.trans h2), e2]; rfl
theorem nb_lost {s : ByteArray} {i t q : Nat} {k m : Int} {ks : Fo} (h : NB (s.data.toList.drop i) = (match SB (s.data.toList.drop (t + 1)) with | some (ks, c :: y) => if c = 41 then some ((k, m, ks), y) else none | _ => none)) (hs : SB (s.data.toList.drop (t + 1)) = some (ks, s.data.toList.drop q)) (h1 : q = s.size ∨ (q < s.size ∧ bt s q ≠ 41)) :
    NB (s.data.toList.drop i) = none := by
  rw [h, hs]
  rcases h1 with rfl | ⟨h1, h2⟩
  · rw [Lib.size_eq, List.drop_length]
  · obtain ⟨c, y', e', e1, e2⟩ := bt_drop h1
    rw [e']
    simp only []
    rw [if_neg (fun e => h2 (by rw [← e1, e]; rfl))]
theorem nb_none {s : ByteArray} {i t : Nat} {k m : Int} (h : NB (s.data.toList.drop i) = (match SB (s.data.toList.drop (t + 1)) with | some (ks, c :: y) => if c = 41 then some ((k, m, ks), y) else none | _ => none)) (hs : SB (s.data.toList.drop (t + 1)) = none) : NB (s.data.toList.drop i) = none := by rw [h, hs]
theorem OwnT.form' {w : World} {lim B : Nat} {v : Value} {l : List Nd} (h : OwnT w lim B v l) : ∃ a c, v = .slice a l.length c := by
  obtain ⟨xs, ⟨_, h1⟩, _⟩ := h
  rcases h1 with ⟨rfl, hn⟩ | ⟨g, cap, cur, rfl, _⟩
  · exact ⟨none, 0, by rw [hn]⟩
  · exact ⟨_, cap, rfl⟩
/-- What the reference's node tells. -/
def NbOk (s : ByteArray) (i : Nat) (W : World) (e : Ending) (w' : World) : Prop := Below W.heap.size W w' ∧
  ((NB (s.data.toList.drop i) = none ∧ ∃ (x y : Int) (za : Option Addr) (zn zc : Nat), e = .returned (.tuple #[.agg #[.int .i64 x, .int .i64 y, .slice za zn zc], .int .i64 (-1)])) ∨
    (∃ (k m : Int) (ks : Fo) (q : Nat) (v : Value), NB (s.data.toList.drop i) = some ((k, m, ks), s.data.toList.drop q) ∧ i < q ∧ q ≤ s.size ∧ e = .returned (.tuple #[.agg #[.int .i64 k, .int .i64 m, v], .int .i64 q]) ∧ KidsS w' (fun b => W.heap.size ≤ b ∧ b < w'.heap.size) v ks))
theorem nbok_fail {s : ByteArray} {i b : Nat} {W w : World} {x y : Int} {za : Option Addr} {zn zc : Nat} (hB : Below W.heap.size W w) (hb : W.heap.size ≤ b) (h : NB (s.data.toList.drop i) = none) : NbOk s i W (.returned (.tuple #[.agg #[.int .i64 x, .int .i64 y, .slice za zn zc], .int .i64 (-1)])) (s3 w b (.int .i64 x) (.int .i64 y) (.slice za zn zc)) :=
  ⟨hB.trans (s3_below _ _ _ hb), .inl ⟨h, x, y, za, zn, zc, rfl⟩⟩
theorem nbok_done {s : ByteArray} {i b q : Nat} {W w : World} {k m : Int} {v : Value} {ks : Fo} {S : Nat → Prop} (hB : Below W.heap.size W w) (hb : W.heap.size ≤ b) (h : NB (s.data.toList.drop i) = some ((k, m, ks), s.data.toList.drop q)) (h1 : i < q) (h2 : q ≤ s.size) (hk : KidsS w S v ks) (hS : ∀ x, S x → W.heap.size ≤ x ∧ x < w.heap.size ∧ x ≠ b) :
    NbOk s i W (.returned (.tuple #[.agg #[.int .i64 k, .int .i64 m, v], .int .i64 q])) (s3 w b (.int .i64 k) (.int .i64 m) v) :=
  ⟨hB.trans (s3_below _ _ _ hb), .inr ⟨k, m, ks, q, v, h, h1, h2, rfl, hk.carry (fun x hx => ⟨⟨(hS x hx).1, by rw [s3_size]; exact (hS x hx).2.1⟩, s3_other _ _ _ (hS x hx).2.2⟩)⟩⟩
end Go.Proofs.YtmbcfijhlpeddaaDoor
/- Names of tables: need.Right, Room, Cmp, and reference 15's. -/
namespace Go.Proofs.YtmbcfijhlpeddaaDoor
open Go.ChangeShapes Go.WideShapes Go.ChangeAt Go.RowKit
set_option linter.unusedVariables false
theorem box4 (W : World) (k n m d : Int) (T : TypeId) : ∃ w0 : World, w0 = W.alloc (.cells #[.int .i64 k, .int .i64 n, .int .i64 m, .int .i64 d] T) ∧ w0.cell? ⟨W.heap.size, 0, none⟩ = some (.int .i64 k) ∧ w0.cell? ⟨W.heap.size, 1, none⟩ = some (.int .i64 n) ∧ w0.cell? ⟨W.heap.size, 2, none⟩ = some (.int .i64 m) ∧ w0.cell? ⟨W.heap.size, 3, none⟩ = some (.int .i64 d) ∧ Below W.heap.size W w0 ∧ W.heap.size < w0.heap.size := by
  have hn := heap_alloc_new W (.cells #[.int .i64 k, .int .i64 n, .int .i64 m, .int .i64 d] T)
  refine ⟨_, rfl, ?_, ?_, ?_, ?_, (Below.refl _ _).alloc (Nat.le_refl _) _, by simp⟩ <;> (rw [cell_of_row _ _ _ _ _ _ hn]; rfl)
/-- How two numbers stand. -/
def cmp3 (x y : Int) : Int := if x < y then -1 else if y < x then 1 else 0
theorem cmp3_lt {x y : Int} (h : x < y) : cmp3 x y = -1 := by unfold cmp3; rw [if_pos h]
theorem cmp3_gt {x y : Int} (h : y < x) : cmp3 x y = 1 := by unfold cmp3; rw [if_neg (by omega), if_pos h]
theorem cmp3_eq {x y : Int} (h : x = y) : cmp3 x y = 0 := by unfold cmp3; rw [if_neg (by omega), if_neg (by omega)]
theorem cmp_nan (x : Int) (W : World) : Calls Tryd.prog 27 #[.int .i64 x] W fun e w' => e = .returned (.bool false) ∧ W = w' := by
  have hx : (x != x) = false := by simp
  go_enter Tryd.func27, Tryd.ntmps27
  go_wp2_with fail
  go_ret
  exact ⟨rfl, rfl⟩
theorem cmp_compare (x y : Int) (W : World) : Calls Tryd.prog 16 #[.int .i64 x, .int .i64 y] W fun e w' => e = .returned (.int .i64 (cmp3 x y)) ∧ W = w' := by
  have NN := Lib.hid (fun x w => cmp_nan x w)
  rcases Int.lt_trichotomy x y with h | h | h
  · have E := Lib.hid (cmp3_lt h)
    have d1 : decide (x < y) = true := decide_eq_true h
    go_enter Tryd.func16, Tryd.ntmps16
    go_wp2_with fail
    refine (NN.out _ _).mono ?_
    rintro e w1 ⟨rfl, rfl⟩
    go_wp2_with fail
    refine (NN.out _ _).mono ?_
    rintro e w1 ⟨rfl, rfl⟩
    go_wp2_with fail
    go_ret
    exact ⟨by rw [E.out]; rfl, rfl⟩
  · have E := Lib.hid (cmp3_eq h)
    subst h
    have d1 : decide (x < x) = false := decide_eq_false (by omega)
    go_enter Tryd.func16, Tryd.ntmps16
    go_wp2_with fail
    refine (NN.out _ _).mono ?_
    rintro e w1 ⟨rfl, rfl⟩
    go_wp2_with fail
    refine (NN.out _ _).mono ?_
    rintro e w1 ⟨rfl, rfl⟩
    go_wp2_with fail
    go_ret
    exact ⟨by rw [E.out]; rfl, rfl⟩
  · have E := Lib.hid (cmp3_gt h)
    have d1 : decide (x < y) = false := decide_eq_false (by omega)
    have d2 : decide (y < x) = true := decide_eq_true h
    go_enter Tryd.func16, Tryd.ntmps16
    go_wp2_with fail
    refine (NN.out _ _).mono ?_
    rintro e w1 ⟨rfl, rfl⟩
    go_wp2_with fail
    refine (NN.out _ _).mono ?_
    rintro e w1 ⟨rfl, rfl⟩
    go_wp2_with fail
    go_ret
    exact ⟨by rw [E.out]; rfl, rfl⟩
/-- The first that is not nought. -/
def fz : List Int → Int
  | [] => 0
  | x :: r => if x = 0 then fz r else x
theorem fz_at : ∀ (xs : List Int) (k : Nat), k < xs.length → (∀ j, j < k → xs.getD j 0 = 0) → xs.getD k 0 ≠ 0 → fz xs = xs.getD k 0
  | [], k, h, _, _ => by simp at h
  | x :: r, 0, _, _, hk => by
    simp at hk ⊢
    rw [fz, if_neg hk]
  | x :: r, k + 1, h, h0, hk => by
    have e0 : x = 0 := by simpa using h0 0 (by omega)
    rw [fz, if_pos e0, fz_at r k (by simpa using h) (fun j hj => by simpa using h0 (j + 1) (by omega)) (by simpa using hk)]
    simp
theorem fz_none : ∀ (xs : List Int), (∀ j, j < xs.length → xs.getD j 0 = 0) → fz xs = 0
  | [], _ => rfl
  | x :: r, h => by
    have e0 : x = 0 := by simpa using h 0 (by simp)
    rw [fz, if_pos e0, fz_none r (fun j hj => by simpa using h (j + 1) (by simpa using hj))]
set_option maxRecDepth 100000 in
theorem cmp_or (p : Option Addr) (n c : Nat) (xs : List Int) (W : World) (hr : RowI W p n xs) :
    Calls Tryd.prog 15 #[.slice p n c] W fun e w' => e = .returned (.int .i64 (fz xs)) ∧ W = w' := by
  have HX := Lib.hid hr
  have hs := hr.small
  have FA := Lib.hid (fun k h => fz_at xs k (by rw [hr.len]; exact h))
  have FZ := Lib.hid (fz_none xs)
  generalize fz xs = z at *
  clear hr
  go_enter Tryd.func15, Tryd.ntmps15
  go_wp2_with fail
  go_loopw [8] (fun i wr => ∃ k : Nat, k ≤ n ∧ i = .int .i64 k ∧ Hid (∀ j, j < k → xs.getD j 0 = 0) ∧ W = wr) (fun i _ => n - (intOf i).toNat)
  case atStart => refine ⟨0, Nat.zero_le _, rfl, Lib.hid (fun j hj => by omega), ?_⟩; first | rfl | trivial
  case round =>
    obtain ⟨k, hk, rfl, HZ, rfl⟩ := hrel
    by_cases hlt : k < n
    · have hd : decide ((k : Int) < (n : Int)) = true := decide_eq_true (by omega)
      obtain ⟨b, off, rfl, hb, hc, x0, x1⟩ := HX.out.cell hlt
      have FA1 := Lib.hid (fun h => FA.out k hlt HZ.out h)
      have HZ2 := Lib.hid (fun (h : xs.getD k 0 = 0) j (hj : j < k + 1) => (show xs.getD j 0 = 0 by
        by_cases e : j = k
        · rw [e]; exact h
        · exact HZ.out j (by omega)))
      generalize xs.getD k 0 = x at *
      by_cases hx : x = 0
      · have HZ3 := Lib.hid (HZ2.out hx)
        subst hx
        go_wp2_with fail
        go_roundw
        case rel => exact ⟨k + 1, by omega, by go_num, HZ3, trivial⟩
        case measure => (first | (simp [intOf]; done) | (simp [intOf]; omega) | (simp only [intOf]; omega))
      · have E := Lib.hid (FA1.out hx)
        have hx0 : (x != 0) = true := by simp; omega
        go_wp2_with fail
        go_ret
        exact ⟨by rw [E.out]; rfl, rfl⟩
    · obtain rfl : k = n := by omega
      have hd : decide ((k : Int) < (k : Int)) = false := decide_eq_false (by omega)
      have E := Lib.hid (FZ.out (fun j hj => HZ.out j (by rw [HX.out.len] at hj; exact hj)))
      go_wp2_with fail
      go_ret
      exact ⟨by rw [E.out]; rfl, rfl⟩
/-- How two names stand. -/
def ncmp (k n m d k' n' m' d' : Int) : Int := fz [cmp3 k k', cmp3 n n', cmp3 m m', cmp3 d d']
theorem two_boxes (W : World) (k n m d k' n' m' d' : Int) (T : TypeId) : ∃ w0 : World, w0 = (W.alloc (.cells #[.int .i64 k, .int .i64 n, .int .i64 m, .int .i64 d] T)).alloc (.cells #[.int .i64 k', .int .i64 n', .int .i64 m', .int .i64 d'] T) ∧
    (w0.cell? ⟨W.heap.size, 0, none⟩ = some (.int .i64 k) ∧ w0.cell? ⟨W.heap.size, 1, none⟩ = some (.int .i64 n) ∧ w0.cell? ⟨W.heap.size, 2, none⟩ = some (.int .i64 m) ∧ w0.cell? ⟨W.heap.size, 3, none⟩ = some (.int .i64 d)) ∧
    (w0.cell? ⟨W.heap.size + 1, 0, none⟩ = some (.int .i64 k') ∧ w0.cell? ⟨W.heap.size + 1, 1, none⟩ = some (.int .i64 n') ∧ w0.cell? ⟨W.heap.size + 1, 2, none⟩ = some (.int .i64 m') ∧ w0.cell? ⟨W.heap.size + 1, 3, none⟩ = some (.int .i64 d')) ∧
    Below W.heap.size W w0 ∧ w0.heap.size = W.heap.size + 2 := by
  obtain ⟨w1, h1, a0, a1, a2, a3, b1, l1⟩ := box4 W k n m d T
  obtain ⟨w2, h2, c0, c1, c2, c3, b2, l2⟩ := box4 w1 k' n' m' d' T
  have e1 : w1.heap.size = W.heap.size + 1 := by rw [h1]; simp
  rw [e1] at c0 c1 c2 c3
  refine ⟨w2, by rw [h2, h1], ⟨?_, ?_, ?_, ?_⟩, ⟨c0, c1, c2, c3⟩, b1.trans (b2.mono b1.size), by rw [h2]; simp [e1]⟩
  · exact (b2.cell (p := ⟨W.heap.size, 0, none⟩) l1).trans a0
  · exact (b2.cell (p := ⟨W.heap.size, 1, none⟩) l1).trans a1
  · exact (b2.cell (p := ⟨W.heap.size, 2, none⟩) l1).trans a2
  · exact (b2.cell (p := ⟨W.heap.size, 3, none⟩) l1).trans a3
theorem cmp3_wf (x y : Int) : (Lit.int .i64 (cmp3 x y)).wf = true := by
  unfold cmp3
  split
  · rfl
  · split <;> rfl
theorem row4_lies (w : World) (T : TypeId) (a b c d : Int) (ha : (Lit.int .i64 a).wf = true) (hb : (Lit.int .i64 b).wf = true) (hc : (Lit.int .i64 c).wf = true) (hd : (Lit.int .i64 d).wf = true) :
    RowI (w.alloc (.cells #[.int .i64 a, .int .i64 b, .int .i64 c, .int .i64 d] T)) (some ⟨w.heap.size, 0, none⟩) 4 [a, b, c, d] := by
  refine ⟨rfl, .inr ⟨w.heap.size, 0, rfl, by simp, fun i hi => ?_⟩, fun z hz => ?_, by omega⟩
  · rw [cell_of_row _ _ _ _ _ _ (heap_alloc_new w _)]
    have : i = 0 ∨ i = 1 ∨ i = 2 ∨ i = 3 := by simp at hi; omega
    rcases this with rfl | rfl | rfl | rfl <;> rfl
  · simp only [List.mem_cons, List.not_mem_nil, or_false] at hz
    rcases hz with rfl | rfl | rfl | rfl <;> assumption
theorem four_at (a b c d : Int) {t : Nat} (ht : t < 4) : t = 0 ∨ t = 1 ∨ t = 2 ∨ t = 3 := by omega
theorem two_rows (W : World) (A B : Obj) (k n m d k' n' m' d' : Int) (T : TypeId) : ∃ w4 : World, w4 = (((W.alloc A).alloc B).alloc (.cells #[.int .i64 k, .int .i64 n, .int .i64 m, .int .i64 d] T)).alloc (.cells #[.int .i64 k', .int .i64 n', .int .i64 m', .int .i64 d'] T) ∧
    (∀ t, t < 4 → w4.cell? ⟨W.heap.size + 1 + 1, t, none⟩ = some (.int .i64 ([k, n, m, d].getD t 0))) ∧ (∀ t, t < 4 → w4.cell? ⟨W.heap.size + 1 + 1 + 1, t, none⟩ = some (.int .i64 ([k', n', m', d'].getD t 0))) ∧
    Below W.heap.size W w4 ∧ W.heap.size + 4 ≤ w4.heap.size := by
  have e2 : ((W.alloc A).alloc B).heap.size = W.heap.size + 1 + 1 := by simp
  obtain ⟨w1, h1, a0, a1, a2, a3, b1, l1⟩ := box4 ((W.alloc A).alloc B) k n m d T
  obtain ⟨w2, h2, c0, c1, c2, c3, b2, l2⟩ := box4 w1 k' n' m' d' T
  have e1 : w1.heap.size = W.heap.size + 1 + 1 + 1 := by rw [h1]; simp
  rw [e2] at a0 a1 a2 a3
  rw [e1] at c0 c1 c2 c3
  refine ⟨w2, by rw [h2, h1], fun t ht => ?_, fun t ht => ?_, ?_, by rw [h2]; simp [e1]⟩
  · refine (b2.cell (p := ⟨W.heap.size + 1 + 1, t, none⟩) (by show W.heap.size + 1 + 1 < _; omega)).trans ?_
    rcases four_at 0 0 0 0 ht with rfl | rfl | rfl | rfl
    · exact a0
    · exact a1
    · exact a2
    · exact a3
  · rcases four_at 0 0 0 0 ht with rfl | rfl | rfl | rfl
    · exact c0
    · exact c1
    · exact c2
    · exact c3
  · have b0 : Below W.heap.size W ((W.alloc A).alloc B) := ((Below.refl _ _).alloc (Nat.le_refl _) A).alloc (by simp) B
    exact (b0.trans (b1.mono (by rw [e2]; omega))).trans (b2.mono (by rw [e1]; omega))
theorem cmp3_neg (x y : Int) : cmp3 y x = - cmp3 x y := by
  rcases Int.lt_trichotomy x y with h | h | h
  · rw [cmp3_lt h, cmp3_gt h]; rfl
  · rw [cmp3_eq h, cmp3_eq h.symm]; rfl
  · rw [cmp3_gt h, cmp3_lt h]
theorem fz_neg : ∀ xs : List Int, fz (xs.map fun x => -x) = - fz xs
  | [] => rfl
  | x :: r => by
    rw [List.map_cons, fz, fz]
    by_cases h : x = 0
    · rw [if_pos h, if_pos (by omega), fz_neg r]
    · rw [if_neg h, if_neg (by omega)]
theorem ncmp_neg (k n m d k' n' m' d' : Int) : ncmp k' n' m' d' k n m d = - ncmp k n m d k' n' m' d' := by
  unfold ncmp
  rw [cmp3_neg k k', cmp3_neg n n', cmp3_neg m m', cmp3_neg d d', ← fz_neg]
  rfl
theorem ncmp_bd (k n m d k' n' m' d' : Int) : -1 ≤ ncmp k n m d k' n' m' d' ∧ ncmp k n m d k' n' m' d' ≤ 1 := by
  have c : ∀ x y, -1 ≤ cmp3 x y ∧ cmp3 x y ≤ 1 := fun x y => by unfold cmp3; split <;> (try split) <;> omega
  have f : ∀ xs : List Int, (∀ x ∈ xs, -1 ≤ x ∧ x ≤ 1) → -1 ≤ fz xs ∧ fz xs ≤ 1 := fun xs => by
    induction xs with
    | nil => intro _; unfold fz; omega
    | cons x r ih =>
      intro h
      unfold fz
      split
      · exact ih fun y hy => h y (List.mem_cons_of_mem _ hy)
      · exact h x (List.mem_cons_self ..)
  refine f _ fun x hx => ?_
  simp only [List.mem_cons, List.not_mem_nil, or_false] at hx
  rcases hx with rfl | rfl | rfl | rfl <;> exact c _ _
end Go.Proofs.YtmbcfijhlpeddaaDoor
/- How two trees stand to each other, in numbers. -/
namespace Go.Proofs.YtmbcfijhlpeddaaDoor
open Go.ChangeShapes Go.WideShapes Go.ChangeAt Go.RowKit
set_option linter.unusedVariables false
def Fo.cmpF : Fo → Fo → Int
  | .cons k n ks r, .cons k' n' ks' r' => fz [cmp3 k k', cmp3 n n', cmp3 (ks.len : Int) (ks'.len : Int), ks.cmpF ks', r.cmpF r']
  | .nil, .nil => 0
  | .nil, .cons .. => -1
  | .cons .., .nil => 1
/-- How two nodes stand. -/
def cmpN (k n : Int) (ks : Fo) (k' n' : Int) (ks' : Fo) : Int := fz [cmp3 k k', cmp3 n n', cmp3 (ks.len : Int) (ks'.len : Int), ks.cmpF ks']
/-- Three answers go together. -/
def Goes (x y z : Int) : Prop := (x ≤ 0 → y ≤ 0 → z ≤ 0 ∧ (z = 0 ↔ x = 0 ∧ y = 0))
theorem fz_cons (x : Int) (l : List Int) : fz (x :: l) = if x = 0 then fz l else x := rfl
theorem goes_cons {x y z : Int} {l m t : List Int} (h : Goes x y z) (g : Goes (fz l) (fz m) (fz t)) : Goes (fz (x :: l)) (fz (y :: m)) (fz (z :: t)) := by
  rw [fz_cons, fz_cons, fz_cons]
  intro h1 h2
  by_cases hx : x = 0
  · by_cases hy : y = 0
    · obtain ⟨a1, a2⟩ := h (by omega) (by omega)
      have hz := a2.2 ⟨hx, hy⟩
      rw [if_pos hx] at h1 ⊢
      rw [if_pos hy] at h2 ⊢
      rw [if_pos hz]
      exact g h1 h2
    · rw [if_neg hy] at h2 ⊢
      obtain ⟨a1, a2⟩ := h (by omega) h2
      have hz : z ≠ 0 := fun e => hy (a2.1 e).2
      rw [if_neg hz]
      exact ⟨a1, fun e => absurd e hz, fun e => absurd e.2 hy⟩
  · rw [if_neg hx] at h1 ⊢
    have h3 : y ≤ 0 := by
      by_cases hy : y = 0
      · omega
      · rw [if_neg hy] at h2; exact h2
    obtain ⟨a1, a2⟩ := h h1 h3
    have hz : z ≠ 0 := fun e => hx (a2.1 e).1
    rw [if_neg hz]
    exact ⟨a1, fun e => absurd e hz, fun e => absurd e.1 hx⟩
theorem goes_3 (a b c : Int) : Goes (cmp3 a b) (cmp3 b c) (cmp3 a c) := by
  unfold Goes cmp3
  repeat' split
  all_goals omega
theorem goes_end (x y z : Int) (h : Goes x y z) : Goes (fz [x]) (fz [y]) (fz [z]) := goes_cons h (by unfold Goes fz; omega)
theorem cmpF_goes : ∀ (a b c : Fo), Goes (a.cmpF b) (b.cmpF c) (a.cmpF c)
  | .cons k n ks r, .cons k' n' ks' r', .cons k'' n'' ks'' r'' => by
    rw [Fo.cmpF, Fo.cmpF, Fo.cmpF]
    exact goes_cons (goes_3 _ _ _) (goes_cons (goes_3 _ _ _) (goes_cons (goes_3 _ _ _) (goes_cons (cmpF_goes ks ks' ks'') (goes_end _ _ _ (cmpF_goes r r' r'')))))
  | .nil, .nil, .nil => by unfold Goes Fo.cmpF; omega
  | .nil, .nil, .cons .. => by unfold Goes Fo.cmpF; omega
  | .nil, .cons .., .nil => by unfold Goes Fo.cmpF; omega
  | .nil, .cons .., .cons .. => by
    have : ∀ y, Goes (-1) y (-1) := fun y => by unfold Goes; omega
    exact this _
  | .cons .., .nil, .nil => by unfold Goes; simp only [Fo.cmpF]; omega
  | .cons .., .nil, .cons .. => by unfold Goes; simp only [Fo.cmpF]; omega
  | .cons .., .cons .., .nil => by unfold Goes; simp only [Fo.cmpF]; omega
theorem cmpN_goes (k n : Int) (ks : Fo) (k' n' : Int) (ks' : Fo) (k'' n'' : Int) (ks'' : Fo) : Goes (cmpN k n ks k' n' ks') (cmpN k' n' ks' k'' n'' ks'') (cmpN k n ks k'' n'' ks'') :=
  goes_cons (goes_3 _ _ _) (goes_cons (goes_3 _ _ _) (goes_cons (goes_3 _ _ _) (goes_end _ _ _ (cmpF_goes ks ks' ks''))))
theorem fz_one (x : Int) : fz [x] = x := by rw [fz_cons]; split <;> simp_all [fz]
theorem fz_neg2 (x : Int) (l m : List Int) (h : fz m = - fz l) : fz (-x :: m) = - fz (x :: l) := by
  rw [fz_cons, fz_cons, h]
  by_cases hx : x = 0
  · rw [if_pos hx, if_pos (by omega)]
  · rw [if_neg hx, if_neg (by omega)]
theorem cmpF_neg : ∀ (a b : Fo), b.cmpF a = - a.cmpF b
  | .cons k n ks r, .cons k' n' ks' r' => by
    rw [Fo.cmpF, Fo.cmpF, cmp3_neg k k', cmp3_neg n n', cmp3_neg (ks.len : Int), cmpF_neg ks ks', cmpF_neg r r']
    exact fz_neg2 _ _ _ (fz_neg2 _ _ _ (fz_neg2 _ _ _ (fz_neg2 _ _ _ (fz_neg2 _ [] [] rfl))))
  | .nil, .nil => rfl
  | .nil, .cons .. => rfl
  | .cons .., .nil => rfl
theorem cmpN_neg (k n : Int) (ks : Fo) (k' n' : Int) (ks' : Fo) : cmpN k' n' ks' k n ks = - cmpN k n ks k' n' ks' := by
  unfold cmpN
  rw [cmp3_neg k k', cmp3_neg n n', cmp3_neg (ks.len : Int), cmpF_neg ks ks']
  exact fz_neg2 _ _ _ (fz_neg2 _ _ _ (fz_neg2 _ _ _ (fz_neg2 _ [] [] rfl)))
theorem cmpF_self (a : Fo) : a.cmpF a = 0 := by have := cmpF_neg a a; omega
theorem cmpN_self (k n : Int) (ks : Fo) : cmpN k n ks k n ks = 0 := by have := cmpN_neg k n ks k n ks; omega
theorem fz_bd : ∀ l : List Int, (∀ x ∈ l, -1 ≤ x ∧ x ≤ 1) → -1 ≤ fz l ∧ fz l ≤ 1
  | [], _ => by unfold fz; omega
  | x :: l, h => by
    rw [fz_cons]
    split
    · exact fz_bd l fun y hy => h y (List.mem_cons_of_mem _ hy)
    · exact h x (List.mem_cons_self ..)
theorem cmp3_bd (x y : Int) : -1 ≤ cmp3 x y ∧ cmp3 x y ≤ 1 := by unfold cmp3; split <;> (try split) <;> omega
theorem cmpF_bd : ∀ (a b : Fo), -1 ≤ a.cmpF b ∧ a.cmpF b ≤ 1
  | .cons k n ks r, .cons k' n' ks' r' => by
    rw [Fo.cmpF]
    refine fz_bd _ fun x hx => ?_
    simp only [List.mem_cons, List.not_mem_nil, or_false] at hx
    rcases hx with rfl | rfl | rfl | rfl | rfl
    · exact cmp3_bd _ _
    · exact cmp3_bd _ _
    · exact cmp3_bd _ _
    · exact cmpF_bd ks ks'
    · exact cmpF_bd r r'
  | .nil, .nil => by unfold Fo.cmpF; omega
  | .nil, .cons .. => by unfold Fo.cmpF; omega
  | .cons .., .nil => by unfold Fo.cmpF; omega
theorem cmpN_bd (k n : Int) (ks : Fo) (k' n' : Int) (ks' : Fo) : -1 ≤ cmpN k n ks k' n' ks' ∧ cmpN k n ks k' n' ks' ≤ 1 := by
  refine fz_bd _ fun x hx => ?_
  simp only [List.mem_cons, List.not_mem_nil, or_false] at hx
  rcases hx with rfl | rfl | rfl | rfl
  · exact cmp3_bd _ _
  · exact cmp3_bd _ _
  · exact cmp3_bd _ _
  · exact cmpF_bd ks ks'
/-- The kids from the i-th on, of two rows of one length. -/
theorem cmpF_drop (a b : Fo) (i : Nat) (ha : i < a.len) (hb : i < b.len) : (a.drop i).cmpF (b.drop i) = if cmpN (a.k i) (a.n i) (a.kids i) (b.k i) (b.n i) (b.kids i) = 0 then (a.drop (i + 1)).cmpF (b.drop (i + 1)) else cmpN (a.k i) (a.n i) (a.kids i) (b.k i) (b.n i) (b.kids i) := by
  rw [Fo.drop_at a i ha, Fo.drop_at b i hb, Fo.cmpF]
  unfold cmpN
  simp only [fz_cons]
  generalize cmp3 (a.k i) (b.k i) = x1
  generalize cmp3 (a.n i) (b.n i) = x2
  generalize cmp3 ((a.kids i).len : Int) ((b.kids i).len : Int) = x3
  generalize (a.kids i).cmpF (b.kids i) = x4
  generalize (a.drop (i + 1)).cmpF (b.drop (i + 1)) = x5
  unfold fz
  by_cases h1 : x1 = 0 <;> by_cases h2 : x2 = 0 <;> by_cases h3 : x3 = 0 <;> by_cases h4 : x4 = 0 <;> by_cases h5 : x5 = 0 <;> simp [h1, h2, h3, h4, h5]
theorem cmpF_end (a b : Fo) (m : Nat) (ha : a.len = m) (hb : b.len = m) : (a.drop m).cmpF (b.drop m) = 0 := by
  have h1 : a.drop m = .nil := by rw [← ha]; exact Fo.drop_len a
  have h2 : b.drop m = .nil := by rw [← hb]; exact Fo.drop_len b
  rw [h1, h2]; rfl
end Go.Proofs.YtmbcfijhlpeddaaDoor
/- How two trees stand: package desc's Cmp and Same. -/
namespace Go.Proofs.YtmbcfijhlpeddaaDoor
open Go.ChangeShapes Go.WideShapes Go.ChangeAt Go.RowKit
set_option linter.unusedVariables false
theorem row3_lies (w : World) (T : TypeId) (a b c : Int) (ha : (Lit.int .i64 a).wf = true) (hb : (Lit.int .i64 b).wf = true) (hc : (Lit.int .i64 c).wf = true) :
    RowI (w.alloc (.cells #[.int .i64 a, .int .i64 b, .int .i64 c] T)) (some ⟨w.heap.size, 0, none⟩) 3 [a, b, c] := by
  refine ⟨rfl, .inr ⟨w.heap.size, 0, rfl, by simp, fun i hi => ?_⟩, fun z hz => ?_, by omega⟩
  · rw [cell_of_row _ _ _ _ _ _ (heap_alloc_new w _)]
    have : i = 0 ∨ i = 1 ∨ i = 2 := by simp at hi; omega
    rcases this with rfl | rfl | rfl <;> rfl
  · simp only [List.mem_cons, List.not_mem_nil, or_false] at hz
    rcases hz with rfl | rfl | rfl <;> assumption
/-- Two blocks of three cells, one behind the other. -/
theorem two3 (W : World) (k n k' n' : Int) (v v' : Value) (T : TypeId) : ∃ w2 : World, w2 = (W.alloc (.cells #[.int .i64 k, .int .i64 n, v] T)).alloc (.cells #[.int .i64 k', .int .i64 n', v'] T) ∧
    (w2.cell? ⟨W.heap.size, 0, none⟩ = some (.int .i64 k) ∧ w2.cell? ⟨W.heap.size, 1, none⟩ = some (.int .i64 n) ∧ w2.cell? ⟨W.heap.size, 2, none⟩ = some v) ∧
    (w2.cell? ⟨W.heap.size + 1, 0, none⟩ = some (.int .i64 k') ∧ w2.cell? ⟨W.heap.size + 1, 1, none⟩ = some (.int .i64 n') ∧ w2.cell? ⟨W.heap.size + 1, 2, none⟩ = some v') ∧ Below W.heap.size W w2 ∧ w2.heap.size = W.heap.size + 2 := by
  obtain ⟨w1, h1, a0, a1, a2, b1, s1⟩ := box3 W k n v T
  obtain ⟨w2, h2, c0, c1, c2, b2, s2⟩ := box3 w1 k' n' v' T
  have lt : W.heap.size < w1.heap.size := by omega
  rw [s1] at c0 c1 c2
  refine ⟨w2, by rw [h2, h1], ⟨?_, ?_, ?_⟩, ⟨c0, c1, c2⟩, b1.trans (b2.mono b1.size), by omega⟩
  · exact (b2.cell (p := ⟨W.heap.size, 0, none⟩) lt).trans a0
  · exact (b2.cell (p := ⟨W.heap.size, 1, none⟩) lt).trans a1
  · exact (b2.cell (p := ⟨W.heap.size, 2, none⟩) lt).trans a2
theorem cmp3_zero {x y : Int} (h : cmp3 x y = 0) : x = y := by unfold cmp3 at h; split at h; · cases h
                                                               · split at h; · cases h
                                                                 · omega
theorem cmpN_part (k n : Int) (ks : Fo) (k' n' : Int) (ks' : Fo) : cmpN k n ks k' n' ks' = if fz [cmp3 k k', cmp3 n n', cmp3 (ks.len : Int) (ks'.len : Int)] = 0 then ks.cmpF ks' else fz [cmp3 k k', cmp3 n n', cmp3 (ks.len : Int) (ks'.len : Int)] := by
  unfold cmpN
  simp only [fz_cons]
  generalize cmp3 k k' = x1
  generalize cmp3 n n' = x2
  generalize cmp3 (ks.len : Int) (ks'.len : Int) = x3
  generalize ks.cmpF ks' = x4
  unfold fz
  by_cases h1 : x1 = 0 <;> by_cases h2 : x2 = 0 <;> by_cases h3 : x3 = 0 <;> by_cases h4 : x4 = 0 <;> simp [h1, h2, h3, h4]
theorem fz3_zero {k k' n n' m m' : Int} (h : fz [cmp3 k k', cmp3 n n', cmp3 m m'] = 0) : m = m' := by
  simp only [fz_cons] at h
  unfold fz at h
  split at h
  · split at h
    · split at h
      · rename_i h3; exact cmp3_zero h3
      · exact absurd h (by assumption)
    · exact absurd h (by assumption)
  · exact absurd h (by assumption)
end Go.Proofs.YtmbcfijhlpeddaaDoor
