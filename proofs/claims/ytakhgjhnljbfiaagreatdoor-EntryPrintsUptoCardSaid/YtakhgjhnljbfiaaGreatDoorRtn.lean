/- Reference 23's node: the numbers. -/
import Derived.Test.YtakhgjhnljbfiaaGreatDoorRtq
namespace Go.Proofs.YtakhgjhnljbfiaaGreatDoor
open Go.ChangeShapes Go.WideShapes Go.ChangeAt Go.RowKit
set_option linter.unusedVariables false
set_option linter.unusedSimpArgs false
theorem pre_ext {s w : ByteArray} {i : Nat} (h : i + w.size ≤ s.size) : s.extract i (i + w.size) = w ↔ w.data.toList <+: s.data.toList.drop i := by
  have e : (s.extract i (i + w.size)).data.toList = (s.data.toList.drop i).take w.data.toList.length := by
    rw [Lib.extract_data, show i + w.size - i = w.size by omega, Lib.size_eq]
  constructor
  · intro he
    rw [he] at e
    exact List.prefix_iff_eq_take.2 e
  · intro hp
    exact ba_ext (e.trans (List.prefix_iff_eq_take.1 hp).symm)
theorem pre_long {s w : ByteArray} {i : Nat} (hi : i ≤ s.size) (h : ¬ i + w.size ≤ s.size) : ¬ w.data.toList <+: s.data.toList.drop i := fun hp => by
  have := hp.length_le
  rw [List.length_drop, ← Lib.size_eq, ← Lib.size_eq] at this
  omega
theorem cut_at (s : ByteArray) {a b : Nat} (h1 : a ≤ b) : s.data.toList.drop a = (s.extract a b).data.toList ++ s.data.toList.drop b := by
  rw [Lib.extract_data]
  conv => lhs; rw [← List.take_append_drop (b - a) (s.data.toList.drop a)]
  rw [List.drop_drop, show a + (b - a) = b by omega]
theorem bt_drop {s : ByteArray} {i : Nat} (h : i < s.size) : ∃ c y, s.data.toList.drop i = c :: y ∧ c.toNat = bt s i ∧ y = s.data.toList.drop (i + 1) := by
  have h1 := bt_list s i h
  have hl : i < s.data.toList.length := by rw [← Lib.size_eq]; exact h
  refine ⟨_, _, List.drop_eq_getElem_cons hl, ?_, rfl⟩
  rw [h1.2]
  have := h1.1
  rw [List.getElem?_eq_getElem hl] at this
  rw [Option.some.inj this]
theorem ext_dig {s : ByteArray} {a b : Nat} (hb : b ≤ s.size) (h : ∀ j, a ≤ j → j < b → 48 ≤ bt s j ∧ bt s j ≤ 57) : ∀ x ∈ (s.extract a b).data.toList, 48 ≤ x.toNat ∧ x.toNat ≤ 57 := fun x hx => by
  rw [Lib.extract_data] at hx
  obtain ⟨i, hi, e⟩ := List.getElem_of_mem hx
  rw [List.length_take, List.length_drop, ← Lib.size_eq] at hi
  rw [List.getElem_take, List.getElem_drop] at e
  have h1 := bt_list s (a + i) (by omega)
  have h2 := h1.1
  rw [List.getElem?_eq_getElem (by rw [← Lib.size_eq]; omega), e] at h2
  have := h (a + i) (by omega) (by omega)
  rw [h1.2, ← Option.some.inj h2] at this
  exact this
/-- A run of digits ends here. -/
def Ends (s : ByteArray) (b : Nat) : Prop := b = s.size ∨ (b < s.size ∧ ¬ (48 ≤ bt s b ∧ bt s b ≤ 57))
theorem Ends.out {s : ByteArray} {b : Nat} (h : Ends s b) : ∀ c y, s.data.toList.drop b = c :: y → ¬ (48 ≤ c.toNat ∧ c.toNat ≤ 57) := fun c y e => by
  rcases h with rfl | ⟨h1, h2⟩
  · rw [Lib.size_eq, List.drop_length] at e; cases e
  · obtain ⟨c', y', e', hc, -⟩ := bt_drop h1
    rw [e'] at e
    simp only [List.cons.injEq] at e
    rw [← e.1, hc]; exact h2
theorem head_yes {s : ByteArray} {K : Int} {i a b : Nat} (hK : 1 ≤ K ∧ K ≤ 7) (hp : (wrd K).data.toList <+: s.data.toList.drop i) (ha : a = i + (wrd K).size) (hab : a ≤ b) (he : Ends s b) (hn : IsN (s.extract a b)) :
    HB (s.data.toList.drop i) = some (K, ((vl (s.extract a b) (s.extract a b).size : Nat) : Int), s.data.toList.drop b) := by
  have h1 := isNL_dec ((isN_list _).1 hn)
  rw [← vl_all] at h1
  refine HB_yes ⟨⟨hK, by omega, by omega⟩, ?_, he.out⟩
  unfold hdB
  rw [Int.toNat_natCast, h1.1, List.append_assoc, ← cut_at s hab, ha, Lib.size_eq, ← List.drop_drop]
  obtain ⟨r, hr⟩ := hp
  rw [← hr, List.drop_left]
theorem head_word {s : ByteArray} {i : Nat} (h : ∀ k : Int, 1 ≤ k → k < 8 → ¬ (wrd k).data.toList <+: s.data.toList.drop i) : HB (s.data.toList.drop i) = none := HB_no (fun k n z hx => by
  refine h k hx.1.1.1 (by have := hx.1.1.2; omega) ⟨Lib.decDigits n.toNat ++ z, ?_⟩
  rw [hx.2.1, hdB, List.append_assoc])
theorem head_num {s : ByteArray} {K : Int} {i a b : Nat} (hK : 1 ≤ K ∧ K ≤ 7) (hp : (wrd K).data.toList <+: s.data.toList.drop i) (ha : a = i + (wrd K).size) (hab : a ≤ b) (hb : b ≤ s.size) (he : Ends s b) (hd : ∀ j, a ≤ j → j < b → 48 ≤ bt s j ∧ bt s j ≤ 57) (hn : ¬ IsN (s.extract a b)) :
    HB (s.data.toList.drop i) = none := HB_no (fun k n z hx => by
  obtain ⟨⟨hk, h0, h9⟩, e, hz⟩ := hx
  unfold hdB at e
  obtain rfl := wrd_front hK hk hp ⟨_, by rw [e, List.append_assoc]⟩
  have e2 : s.data.toList.drop a = (Lib.decDigits n.toNat) ++ z := by
    rw [ha, Lib.size_eq, ← List.drop_drop, e, List.append_assoc, List.drop_left]
  rw [cut_at s hab] at e2
  have := run_uniq e2 (ext_dig hb hd) (dec_dig _) he.out hz
  refine hn ((isN_list _).2 ?_)
  rw [this.1]
  exact (dec_isNL (by omega)).1)
def aftB (l : List Nd) : Option (Fo × List UInt8) → Option (Fo × List UInt8)
  | none => none
  | some (x, y) => some (mkF l x, y)
/-- What is still to be looked at behind some nodes. -/
noncomputable def rstB (l : List Nd) : List UInt8 → Option (Fo × List UInt8)
  | [] => some (mkF l .nil, [])
  | c :: y => if c = 44 then aftB l (SB y) else some (mkF l .nil, c :: y)
theorem aftB_nil (z : List UInt8) : SB z = aftB [] (SB z) := by rcases SB z with _ | ⟨x, y⟩ <;> rfl
theorem aftB_none {z : List UInt8} {l : List Nd} (h : NB z = none) : aftB l (SB z) = none := by
  rw [show SB z = none from Gr.S_none HB_less h]; rfl
theorem aftB_step {z y : List UInt8} {l : List Nd} {k m : Int} {ks : Fo} (h : NB z = some ((k, m, ks), y)) : aftB l (SB z) = rstB (l ++ [⟨k, m, ks⟩]) y := by
  cases y with
  | nil =>
    rw [show SB z = _ from Gr.S_end HB_less h (by simp)]
    show some (mkF l (.cons k m ks .nil), []) = some (mkF (l ++ [⟨k, m, ks⟩]) .nil, [])
    rw [mkF_snoc l ⟨k, m, ks⟩ .nil]
  | cons c y =>
    by_cases hc : c = 44
    · subst hc
      rw [show SB z = _ from Gr.S_more HB_less h]
      show aftB l _ = aftB (l ++ [⟨k, m, ks⟩]) (Gr.S HB 40 41 44 y)
      rcases Gr.S HB 40 41 44 y with _ | ⟨x, y'⟩
      · rfl
      · show some (mkF l (.cons k m ks x), y') = some (mkF (l ++ [⟨k, m, ks⟩]) x, y')
        rw [mkF_snoc l ⟨k, m, ks⟩ x]
    · rw [show SB z = _ from Gr.S_end HB_less h (fun y' e => hc (by simp only [List.cons.injEq] at e; exact e.1))]
      show some (mkF l (.cons k m ks .nil), c :: y) = if c = 44 then _ else some (mkF (l ++ [⟨k, m, ks⟩]) .nil, c :: y)
      rw [if_neg hc, mkF_snoc l ⟨k, m, ks⟩ .nil]
theorem u8_of {c : UInt8} {n : Nat} (h : n < 256) (e : c.toNat = n) : c = UInt8.ofNat n := UInt8.toNat_inj.1 (by rw [e, UInt8.toNat_ofNat']; omega)
/-- At a comma the next one is read. -/
theorem rst_comma {s : ByteArray} {t : Nat} {l : List Nd} (h : t < s.size) (hc : bt s t = 44) : rstB l (s.data.toList.drop t) = aftB l (SB (s.data.toList.drop (t + 1))) := by
  obtain ⟨c, y, e, e1, e2⟩ := bt_drop h
  rw [e, rstB, if_pos (show c = 44 from u8_of (by decide) (e1.trans hc)), e2]
theorem rst_end {s : ByteArray} {t : Nat} {l : List Nd} (h : t = s.size ∨ (t < s.size ∧ bt s t ≠ 44)) : rstB l (s.data.toList.drop t) = some (mkF l .nil, s.data.toList.drop t) := by
  rcases h with rfl | ⟨h, hc⟩
  · rw [Lib.size_eq, List.drop_length]; rfl
  · obtain ⟨c, y, e, e1, e2⟩ := bt_drop h
    rw [e, rstB, if_neg (fun e3 => hc (by rw [← e1, e3]; rfl))]
theorem nb_leaf {s : ByteArray} {i t : Nat} {k m : Int} (h : HB (s.data.toList.drop i) = some (k, m, s.data.toList.drop t)) (ht : t = s.size ∨ (t < s.size ∧ bt s t ≠ 40)) : NB (s.data.toList.drop i) = some ((k, m, .nil), s.data.toList.drop t) :=
  Gr.N_leaf h (fun y e => by
    rcases ht with rfl | ⟨h1, h2⟩
    · rw [Lib.size_eq, List.drop_length] at e; cases e
    · obtain ⟨c, y', e', e1, -⟩ := bt_drop h1
      rw [e'] at e
      simp only [List.cons.injEq] at e
      exact h2 (by rw [← e1, e.1]; rfl))
theorem nb_open {s : ByteArray} {i t : Nat} {k m : Int} (h : HB (s.data.toList.drop i) = some (k, m, s.data.toList.drop t)) (h1 : t < s.size) (h2 : bt s t = 40) : NB (s.data.toList.drop i) = (match SB (s.data.toList.drop (t + 1)) with | some (ks, c :: y) => if c = 41 then some ((k, m, ks), y) else none | _ => none) := by
  obtain ⟨c, y', e', e1, e2⟩ := bt_drop h1
  rw [e', (show c = 40 from u8_of (by decide) (e1.trans h2)), e2] at h
  have := Gr.N_open (op := 40) (cl := 41) (cm := 44) h
  rw [show NB (s.data.toList.drop i) = _ from this]
  show _ = (match Gr.S HB 40 41 44 (s.data.toList.drop (t + 1)) with | some (ks, c :: y) => if c = 41 then some ((k, m, ks), y) else none | _ => none)
  rcases Gr.S HB 40 41 44 (s.data.toList.drop (t + 1)) with _ | ⟨ks, _ | ⟨c, y⟩⟩ <;> rfl
theorem nb_close {s : ByteArray} {i t q : Nat} {k m : Int} {ks : Fo} (h : NB (s.data.toList.drop i) = (match SB (s.data.toList.drop (t + 1)) with | some (ks, c :: y) => if c = 41 then some ((k, m, ks), y) else none | _ => none)) (hs : SB (s.data.toList.drop (t + 1)) = some (ks, s.data.toList.drop q)) (h1 : q < s.size) (h2 : bt s q = 41) :
    NB (s.data.toList.drop i) = some ((k, m, ks), s.data.toList.drop (q + 1)) := by
  obtain ⟨c, y', e', e1, e2⟩ := bt_drop h1
  rw [h, hs, e', u8_of (by decide) (e1.trans h2), e2]; rfl
theorem nb_lost {s : ByteArray} {i t q : Nat} {k m : Int} {ks : Fo} (h : NB (s.data.toList.drop i) = (match SB (s.data.toList.drop (t + 1)) with | some (ks, c :: y) => if c = 41 then some ((k, m, ks), y) else none | _ => none)) (hs : SB (s.data.toList.drop (t + 1)) = some (ks, s.data.toList.drop q)) (h1 : q = s.size ∨ (q < s.size ∧ bt s q ≠ 41)) :
    NB (s.data.toList.drop i) = none := by
  rw [h, hs]
  rcases h1 with rfl | ⟨h1, h2⟩
  · rw [Lib.size_eq, List.drop_length]
  · obtain ⟨c, y', e', e1, e2⟩ := bt_drop h1
    rw [e']
    simp only []
    rw [if_neg (fun e => h2 (by rw [← e1, e]; rfl))]
theorem nb_none {s : ByteArray} {i t : Nat} {k m : Int} (h : NB (s.data.toList.drop i) = (match SB (s.data.toList.drop (t + 1)) with | some (ks, c :: y) => if c = 41 then some ((k, m, ks), y) else none | _ => none)) (hs : SB (s.data.toList.drop (t + 1)) = none) : NB (s.data.toList.drop i) = none := by rw [h, hs]
theorem OwnT.form' {w : World} {lim B : Nat} {v : Value} {l : List Nd} (h : OwnT w lim B v l) : ∃ a c, v = .slice a l.length c := by
  obtain ⟨xs, ⟨_, h1⟩, _⟩ := h
  rcases h1 with ⟨rfl, hn⟩ | ⟨g, cap, cur, rfl, _⟩
  · exact ⟨none, 0, by rw [hn]⟩
  · exact ⟨_, cap, rfl⟩
/-- What the reference's node tells. -/
def NbOk (s : ByteArray) (i : Nat) (W : World) (e : Ending) (w' : World) : Prop := Below W.heap.size W w' ∧
  ((NB (s.data.toList.drop i) = none ∧ ∃ (x y : Int) (za : Option Addr) (zn zc : Nat), e = .returned (.tuple #[.agg #[.int .i64 x, .int .i64 y, .slice za zn zc], .int .i64 (-1)])) ∨
    (∃ (k m : Int) (ks : Fo) (q : Nat) (v : Value), NB (s.data.toList.drop i) = some ((k, m, ks), s.data.toList.drop q) ∧ i < q ∧ q ≤ s.size ∧ e = .returned (.tuple #[.agg #[.int .i64 k, .int .i64 m, v], .int .i64 q]) ∧ KidsS w' (fun b => W.heap.size ≤ b ∧ b < w'.heap.size) v ks))
theorem nbok_fail {s : ByteArray} {i b : Nat} {W w : World} {x y : Int} {za : Option Addr} {zn zc : Nat} (hB : Below W.heap.size W w) (hb : W.heap.size ≤ b) (h : NB (s.data.toList.drop i) = none) : NbOk s i W (.returned (.tuple #[.agg #[.int .i64 x, .int .i64 y, .slice za zn zc], .int .i64 (-1)])) (s3 w b (.int .i64 x) (.int .i64 y) (.slice za zn zc)) :=
  ⟨hB.trans (s3_below _ _ _ hb), .inl ⟨h, x, y, za, zn, zc, rfl⟩⟩
theorem nbok_done {s : ByteArray} {i b q : Nat} {W w : World} {k m : Int} {v : Value} {ks : Fo} {S : Nat → Prop} (hB : Below W.heap.size W w) (hb : W.heap.size ≤ b) (h : NB (s.data.toList.drop i) = some ((k, m, ks), s.data.toList.drop q)) (h1 : i < q) (h2 : q ≤ s.size) (hk : KidsS w S v ks) (hS : ∀ x, S x → W.heap.size ≤ x ∧ x < w.heap.size ∧ x ≠ b) :
    NbOk s i W (.returned (.tuple #[.agg #[.int .i64 k, .int .i64 m, v], .int .i64 q])) (s3 w b (.int .i64 k) (.int .i64 m) v) :=
  ⟨hB.trans (s3_below _ _ _ hb), .inr ⟨k, m, ks, q, v, h, h1, h2, rfl, hk.carry (fun x hx => ⟨⟨(hS x hx).1, by rw [s3_size]; exact (hS x hx).2.1⟩, s3_other _ _ _ (hS x hx).2.2⟩)⟩⟩
end Go.Proofs.YtakhgjhnljbfiaaGreatDoor
