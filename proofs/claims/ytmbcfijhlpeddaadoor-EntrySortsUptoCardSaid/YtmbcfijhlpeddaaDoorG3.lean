/- Put together by program (merge2.py): Txt Txk Ownt Rdr Appt Nodt. -/
import Derived.Test.YtmbcfijhlpeddaaDoorD11
import Derived.Test.YtmbcfijhlpeddaaDoorG2
/- The texts of trees, as bytes and as tokens; heads of nodes. -/
namespace Go.Proofs.YtmbcfijhlpeddaaDoor
open Go.ChangeShapes Go.WideShapes Go.ChangeAt Go.RowKit
set_option linter.unusedVariables false
set_option linter.unusedSimpArgs false

/-- A number's digits, as a list. -/
def IsNL (D : List UInt8) : Prop := (1 ≤ D.length ∧ D.length ≤ 9 ∧ ¬ (D.head? = some 48 ∧ 1 < D.length)) ∧ ∀ b ∈ D, 48 ≤ b.toNat ∧ b.toNat ≤ 57
theorem bt_mem {s : ByteArray} {b : UInt8} (h : b ∈ s.data.toList) : ∃ i, i < s.size ∧ bt s i = b.toNat := by
  obtain ⟨i, hi, e⟩ := List.getElem_of_mem h
  have hs : i < s.size := by rw [Lib.size_eq]; exact hi
  refine ⟨i, hs, ?_⟩
  have h1 := bt_list s i hs
  rw [h1.2]
  have h2 := h1.1
  rw [List.getElem?_eq_getElem hi, e] at h2
  rw [← Option.some.inj h2]
theorem bt_head {s : ByteArray} (h : 0 < s.size) : s.data.toList.head? = some 48 ↔ bt s 0 = 48 := by
  have h1 := bt_list s 0 h
  rw [List.head?_eq_getElem?, h1.1, h1.2]
  constructor
  · intro e; rw [Option.some.inj e]; rfl
  · intro e; congr 1; exact UInt8.toNat_inj.1 e
theorem isN_list (s : ByteArray) : IsN s ↔ IsNL s.data.toList := by
  have hz := Lib.size_eq s
  unfold IsN IsNL
  rw [← hz]
  constructor
  · rintro ⟨⟨h1, h2, h3⟩, hd⟩
    refine ⟨⟨h1, h2, fun ⟨h4, h5⟩ => h3 ⟨(bt_head h1).1 h4, h5⟩⟩, fun b hb => ?_⟩
    obtain ⟨i, hi, e⟩ := bt_mem hb
    rw [← e]; exact hd i hi
  · rintro ⟨⟨h1, h2, h3⟩, hd⟩
    refine ⟨⟨h1, h2, fun ⟨h4, h5⟩ => h3 ⟨(bt_head h1).2 h4, h5⟩⟩, fun i hi => ?_⟩
    have h4 := bt_list s i hi
    rw [h4.2]
    exact hd _ (List.mem_of_getElem? h4.1)
theorem vl_all (s : ByteArray) : vl s s.size = vlL s.data.toList := by
  unfold vl; rw [Lib.size_eq, List.take_length]
theorem vlL_from : ∀ (l : List UInt8) (a : Nat), a ≤ l.foldl (fun a b => a * 10 + (b.toNat - 48)) a
  | [], a => Nat.le_refl a
  | b :: l, a => Nat.le_trans (by omega) (vlL_from l (a * 10 + (b.toNat - 48)))
theorem vlL_pos {b : UInt8} {l : List UInt8} (h : 48 < b.toNat) : 1 ≤ vlL (b :: l) := by
  have := vlL_from l (0 * 10 + (b.toNat - 48))
  unfold vlL
  rw [List.foldl_cons]
  omega
theorem dec_of : ∀ (m : Nat) (D : List UInt8), D.length = m → 1 ≤ m → (∀ b ∈ D, 48 ≤ b.toNat ∧ b.toNat ≤ 57) → ¬ (D.head? = some 48 ∧ 1 < D.length) → Lib.decDigits (vlL D) = D := by
  intro m
  induction m with
  | zero => intro D _ h; omega
  | succ m ih =>
    intro D hl _ hd hh
    rcases List.eq_nil_or_concat D with rfl | ⟨E, b, hE⟩
    · simp at hl
    · rw [List.concat_eq_append] at hE
      subst hE
      have hb := hd b (by simp)
      have hm : E.length = m := by simpa using hl
      rw [vlL_snoc]
      cases E with
      | nil =>
        rw [dec_small (by show 0 * 10 + _ < 10; omega)]
        simp only [List.nil_append, List.cons.injEq, and_true]
        apply UInt8.toNat_inj.1
        rw [u8_dig (by show 0 * 10 + _ < 10; omega)]
        show 48 + (0 * 10 + (b.toNat - 48)) = b.toNat
        omega
      | cons e E =>
        have hne : e ≠ 48 := fun h => hh ⟨by simp [h], by simp⟩
        have he := hd e (by simp)
        have hp : 1 ≤ vlL (e :: E) := vlL_pos (by
          have : e.toNat ≠ 48 := fun h => hne (UInt8.toNat_inj.1 h)
          omega)
        have := ih (e :: E) hm (by rw [← hm]; simp) (fun x hx => hd x (by simp only [List.mem_append]; exact .inl hx)) (fun ⟨h, _⟩ => hne (by simpa using h))
        rw [dec_big (by omega), show (vlL (e :: E) * 10 + (b.toNat - 48)) / 10 = vlL (e :: E) by omega, show (vlL (e :: E) * 10 + (b.toNat - 48)) % 10 = b.toNat - 48 by omega, this]
        congr 2
        apply UInt8.toNat_inj.1
        rw [u8_dig (by omega)]; omega
theorem isNL_dec {D : List UInt8} (h : IsNL D) : Lib.decDigits (vlL D) = D ∧ vlL D ≤ 999999999 := by
  refine ⟨dec_of D.length D rfl h.1.1 h.2 h.1.2.2, ?_⟩
  have h1 : IsN ⟨D.toArray⟩ := (isN_list _).2 (by simpa using h)
  have h2 := vl_small (Nat.le_refl _) h1.1.2.1 h1.2
  rw [vl_all] at h2
  have : vlL D < 1000000000 := by simpa using h2
  omega
theorem dec_isNL {n : Nat} (h : n ≤ 999999999) : IsNL (Lib.decDigits n) ∧ vlL (Lib.decDigits n) = n := by
  refine ⟨?_, dec_val n⟩
  have := (isN_list ⟨(Lib.decDigits n).toArray⟩).1 (dec_isN h _ (by simp)).1
  simpa using this

/-- A node's head, as bytes and as tokens. -/
def hdB (k n : Int) : List UInt8 := (wrd k).data.toList ++ Lib.decDigits n.toNat
def hdT (k n : Int) : List ByteArray := [wrd k, ⟨(Lib.decDigits n.toNat).toArray⟩]
theorem ba_ext {x y : ByteArray} (h : x.data.toList = y.data.toList) : x = y := ByteArray.ext (Array.toList_inj.1 h)

open Classical in
noncomputable def HT : List ByteArray → Option (Int × Int × List ByteArray)
  | w :: d :: z => if h : (∃ k : Int, (1 ≤ k ∧ k ≤ 7) ∧ wrd k = w) ∧ IsN d then some (h.1.choose, ((vl d d.size : Nat) : Int), z) else none
  | _ => none
theorem HT_yes {k : Int} {d : ByteArray} {z : List ByteArray} (hk : 1 ≤ k ∧ k ≤ 7) (hd : IsN d) : HT (wrd k :: d :: z) = some (k, ((vl d d.size : Nat) : Int), z) := by
  have h : (∃ k' : Int, (1 ≤ k' ∧ k' ≤ 7) ∧ wrd k' = wrd k) ∧ IsN d := ⟨⟨k, hk, rfl⟩, hd⟩
  rw [HT, dif_pos h, wrd_inj h.1.choose_spec.1 hk h.1.choose_spec.2]
theorem HT_word {w d : ByteArray} {z : List ByteArray} (h : ∀ k : Int, 1 ≤ k → k ≤ 7 → wrd k ≠ w) : HT (w :: d :: z) = none := by
  rw [HT, dif_neg]
  rintro ⟨⟨k, hk, e⟩, -⟩
  exact h k hk.1 hk.2 e
theorem HT_num {w d : ByteArray} {z : List ByteArray} (h : ¬ IsN d) : HT (w :: d :: z) = none := by
  rw [HT, dif_neg]
  exact fun e => h e.2
theorem HT_parts {ts : List ByteArray} {k n : Int} {z : List ByteArray} (h : HT ts = some (k, n, z)) : ∃ d, ts = wrd k :: d :: z ∧ (1 ≤ k ∧ k ≤ 7) ∧ IsN d ∧ n = ((vl d d.size : Nat) : Int) := by
  match ts, h with
  | [], h => simp [HT] at h
  | [_], h => simp [HT] at h
  | w :: d :: z', h =>
    rw [HT] at h
    split at h
    · rename_i hc
      simp only [Option.some.injEq, Prod.mk.injEq] at h
      obtain ⟨h1, h2, rfl⟩ := h
      have := hc.1.choose_spec
      rw [h1] at this
      exact ⟨d, by rw [this.2], this.1, hc.2, h2.symm⟩
    · cases h
theorem HT_less (ts : List ByteArray) (k n : Int) (z : List ByteArray) (h : HT ts = some (k, n, z)) : z.length < ts.length := by
  obtain ⟨d, rfl, -⟩ := HT_parts h
  simp; omega
theorem HT_sound (ts : List ByteArray) (k n : Int) (z : List ByteArray) (h : HT ts = some (k, n, z)) : ts = hdT k n ++ z ∧ okT1 k n := by
  obtain ⟨d, rfl, hk, hd, rfl⟩ := HT_parts h
  have h1 := isNL_dec ((isN_list d).1 hd)
  rw [← vl_all] at h1
  refine ⟨?_, hk, by omega, by omega⟩
  show _ = [_, _] ++ z
  have : (⟨(Lib.decDigits ((vl d d.size : Nat) : Int).toNat).toArray⟩ : ByteArray) = d := ba_ext (by simpa using h1.1)
  rw [this]; rfl
theorem HT_all (k n : Int) (z : List ByteArray) (h : okT1 k n) : HT (hdT k n ++ z) = some (k, n, z) := by
  obtain ⟨hk, h0, h9⟩ := h
  have hd := dec_isN (n := n.toNat) (by omega) ⟨(Lib.decDigits n.toNat).toArray⟩ (by simp)
  show HT (wrd k :: _ :: z) = _
  rw [HT_yes hk hd.1, hd.2, Int.toNat_of_nonneg h0]

/-- A head stands at the front, and no digit behind it. -/
def HdB (L : List UInt8) (k n : Int) (z : List UInt8) : Prop := okT1 k n ∧ L = hdB k n ++ z ∧ ∀ c y, z = c :: y → ¬ (48 ≤ c.toNat ∧ c.toNat ≤ 57)
theorem wrd_pre : ∀ i j : Fin 8, i.val ≠ 0 → j.val ≠ 0 → (wrd i.val).data.toList.isPrefixOf (wrd j.val).data.toList = true → i = j := by decide +kernel
theorem wrd_front {i j : Int} (hi : 1 ≤ i ∧ i ≤ 7) (hj : 1 ≤ j ∧ j ≤ 7) {L : List UInt8} (h1 : (wrd i).data.toList <+: L) (h2 : (wrd j).data.toList <+: L) : i = j := by
  have key : ∀ i j : Int, 1 ≤ i ∧ i ≤ 7 → 1 ≤ j ∧ j ≤ 7 → (wrd i).data.toList <+: (wrd j).data.toList → i = j := fun i j hi hj h => by
    have := wrd_pre ⟨i.toNat, by omega⟩ ⟨j.toNat, by omega⟩ (by show i.toNat ≠ 0; omega) (by show j.toNat ≠ 0; omega) (by
      show (wrd ((i.toNat : Nat) : Int)).data.toList.isPrefixOf (wrd ((j.toNat : Nat) : Int)).data.toList = true
      rw [Int.toNat_of_nonneg (by omega), Int.toNat_of_nonneg (by omega)]
      exact List.isPrefixOf_iff_prefix.2 h)
    have h2 : i.toNat = j.toNat := congrArg Fin.val this
    omega
  rcases Nat.le_total (wrd i).data.toList.length (wrd j).data.toList.length with h | h
  · exact key i j hi hj (List.prefix_of_prefix_length_le h1 h2 h)
  · exact (key j i hj hi (List.prefix_of_prefix_length_le h2 h1 h)).symm
theorem run_uniq : ∀ {D E z y : List UInt8}, D ++ z = E ++ y → (∀ b ∈ D, 48 ≤ b.toNat ∧ b.toNat ≤ 57) → (∀ b ∈ E, 48 ≤ b.toNat ∧ b.toNat ≤ 57) → (∀ c r, z = c :: r → ¬ (48 ≤ c.toNat ∧ c.toNat ≤ 57)) → (∀ c r, y = c :: r → ¬ (48 ≤ c.toNat ∧ c.toNat ≤ 57)) → D = E ∧ z = y
  | [], [], z, y, h, _, _, _, _ => ⟨rfl, h⟩
  | [], e :: E, z, y, h, _, hE, hz, _ => absurd (hE e (by simp)) (hz e (E ++ y) h)
  | d :: D, [], z, y, h, hD, _, _, hy => absurd (hD d (by simp)) (hy d (D ++ z) h.symm)
  | d :: D, e :: E, z, y, h, hD, hE, hz, hy => by
    simp only [List.cons_append, List.cons.injEq] at h
    obtain ⟨h1, h2⟩ := run_uniq h.2 (fun b hb => hD b (by simp [hb])) (fun b hb => hE b (by simp [hb])) hz hy
    exact ⟨by rw [h.1, h1], h2⟩
theorem HdB_uniq {L : List UInt8} {k n k' n' : Int} {z z' : List UInt8} (h : HdB L k n z) (h' : HdB L k' n' z') : k = k' ∧ n = n' ∧ z = z' := by
  obtain ⟨⟨hk, h0, h9⟩, e, hz⟩ := h
  obtain ⟨⟨hk', h0', h9'⟩, e', hz'⟩ := h'
  unfold hdB at e e'
  obtain rfl := wrd_front hk hk' (L := L) ⟨_, by rw [e, List.append_assoc]⟩ ⟨_, by rw [e', List.append_assoc]⟩
  rw [e, List.append_assoc, List.append_assoc, List.append_cancel_left_eq] at e'
  obtain ⟨h1, h2⟩ := run_uniq e' (dec_dig _) (dec_dig _) hz hz'
  have := congrArg vlL h1
  rw [dec_val, dec_val] at this
  exact ⟨rfl, by omega, h2⟩
open Classical in
noncomputable def HB (L : List UInt8) : Option (Int × Int × List UInt8) := if h : ∃ x : Int × Int × List UInt8, HdB L x.1 x.2.1 x.2.2 then some h.choose else none
theorem HB_yes {L : List UInt8} {k n : Int} {z : List UInt8} (h : HdB L k n z) : HB L = some (k, n, z) := by
  have hx : ∃ x : Int × Int × List UInt8, HdB L x.1 x.2.1 x.2.2 := ⟨(k, n, z), h⟩
  unfold HB
  rw [dif_pos hx]
  have := HdB_uniq hx.choose_spec h
  congr 1
  exact Prod.ext this.1 (Prod.ext this.2.1 this.2.2)
theorem HB_no {L : List UInt8} (h : ∀ k n z, ¬ HdB L k n z) : HB L = none := by
  unfold HB
  rw [dif_neg]
  rintro ⟨x, hx⟩
  exact h _ _ _ hx
theorem HB_parts {L : List UInt8} {k n : Int} {z : List UInt8} (h : HB L = some (k, n, z)) : HdB L k n z := by
  unfold HB at h
  split at h
  · rename_i hc
    have := hc.choose_spec
    rw [Option.some.inj h] at this
    exact this
  · cases h
theorem wrd_len {k : Int} (h : 1 ≤ k ∧ k ≤ 7) : 0 < (wrd k).data.toList.length := by
  have hk : k = 1 ∨ k = 2 ∨ k = 3 ∨ k = 4 ∨ k = 5 ∨ k = 6 ∨ k = 7 := by omega
  rcases hk with rfl | rfl | rfl | rfl | rfl | rfl | rfl <;> decide
theorem hdB_len (k n : Int) (h : okT1 k n) : 0 < (hdB k n).length := by
  have := wrd_len h.1
  unfold hdB; rw [List.length_append]; omega
theorem HB_less (L : List UInt8) (k n : Int) (z : List UInt8) (h : HB L = some (k, n, z)) : z.length < L.length := by
  obtain ⟨ho, rfl, -⟩ := HB_parts h
  have := hdB_len k n ho
  rw [List.length_append]; omega
theorem HB_sound (L : List UInt8) (k n : Int) (z : List UInt8) (h : HB L = some (k, n, z)) : L = hdB k n ++ z ∧ okT1 k n := ⟨(HB_parts h).2.1, (HB_parts h).1⟩
theorem HB_all (k n : Int) (z : List UInt8) (h : okT1 k n) (hz : z = [] ∨ ∃ c y, z = c :: y ∧ (c = 40 ∨ c = 41 ∨ c = 44)) : HB (hdB k n ++ z) = some (k, n, z) := by
  refine HB_yes ⟨h, rfl, fun c y e => ?_⟩
  rcases hz with rfl | ⟨c', y', rfl, hc⟩
  · cases e
  · simp only [List.cons.injEq] at e
    obtain ⟨rfl, -⟩ := e
    rcases hc with rfl | rfl | rfl <;> decide

/-- The texts. -/
def opB : ByteArray := ⟨#[40]⟩
def clB : ByteArray := ⟨#[41]⟩
def cmB : ByteArray := ⟨#[44]⟩
def txB (x : Fo) : List UInt8 := Gr.tx hdB 40 41 44 x
def txT (x : Fo) : List ByteArray := Gr.tx hdT opB clB cmB x
noncomputable def NB (L : List UInt8) := Gr.N HB 40 41 44 L
noncomputable def NT (ts : List ByteArray) := Gr.N HT opB clB cmB ts
noncomputable def SB (L : List UInt8) := Gr.S HB 40 41 44 L
noncomputable def ST (ts : List ByteArray) := Gr.S HT opB clB cmB ts
def flat (l : List ByteArray) : List UInt8 := l.flatMap fun t => t.data.toList
theorem flat_app (a b : List ByteArray) : flat (a ++ b) = flat a ++ flat b := by unfold flat; rw [List.flatMap_append]
theorem txT_flat : ∀ x : Fo, flat (txT x) = txB x := by
  intro x
  induction x with
  | nil => rfl
  | cons k n ks r ihk ihr =>
    unfold txT txB at ihk ihr ⊢
    rw [Gr.tx, Gr.tx, flat_app, flat_app]
    have h1 : flat (hdT k n) = hdB k n := by simp [flat, hdT, hdB]
    rw [h1]
    congr 1
    congr 1
    · by_cases h : ks.len = 0
      · rw [if_pos h, if_pos h]; rfl
      · rw [if_neg h, if_neg h]
        show flat ([opB] ++ (_ ++ [clB])) = _
        rw [flat_app, flat_app, ihk]
        rfl
    · by_cases h : r.len = 0
      · rw [if_pos h, if_pos h]; rfl
      · rw [if_neg h, if_neg h]
        show flat ([cmB] ++ _) = _
        rw [flat_app, ihr]
        rfl
theorem tx_cnt {σ : Type} {hd : Int → Int → List σ} {op cl cm : σ} (hL : ∀ k n, okT1 k n → 0 < (hd k n).length) : ∀ x : Fo, x.okT → x.cnt ≤ (Gr.tx hd op cl cm x).length := by
  intro x
  induction x with
  | nil => intro _; simp [Fo.cnt]
  | cons k n ks r ihk ihr =>
    intro h
    have h1 := hL k n h.1
    have h2 := ihk h.2.1
    have h3 := ihr h.2.2
    rw [Gr.tx, Fo.cnt, List.length_append, List.length_append]
    have h4 : ks.cnt ≤ (if ks.len = 0 then [] else op :: (Gr.tx hd op cl cm ks ++ [cl])).length := by
      by_cases hk : ks.len = 0
      · rw [Fo.len_zero hk]; simp [Fo.cnt]
      · rw [if_neg hk]; simp only [List.length_cons, List.length_append]; omega
    have h5 : r.cnt ≤ (if r.len = 0 then [] else cm :: Gr.tx hd op cl cm r).length := by
      by_cases hk : r.len = 0
      · rw [Fo.len_zero hk]; simp [Fo.cnt]
      · rw [if_neg hk]; simp only [List.length_cons]; omega
    omega
theorem NB_what (L : List UInt8) (k n : Int) (ks : Fo) : NB L = some ((k, n, ks), []) ↔ (Fo.cons k n ks .nil).okT ∧ L = txB (.cons k n ks .nil) := by
  constructor
  · intro h
    have := Gr.N_sound HB_sound HB_less h
    exact ⟨this.2, this.1⟩
  · rintro ⟨h, rfl⟩
    exact Gr.N_all (by decide) (by decide) (by decide) HB_all hdB_len HB_less h
theorem txB_inj {k n k' n' : Int} {ks ks' : Fo} (h : (Fo.cons k n ks .nil).okT) (h' : (Fo.cons k' n' ks' .nil).okT) (e : txB (.cons k n ks .nil) = txB (.cons k' n' ks' .nil)) : k = k' ∧ n = n' ∧ ks = ks' := by
  have h1 := (NB_what _ _ _ _).2 ⟨h, rfl⟩
  have h2 := (NB_what _ _ _ _).2 ⟨h', rfl⟩
  rw [e, h2] at h1
  simp only [Option.some.injEq, Prod.mk.injEq, and_true] at h1
  exact ⟨h1.1.symm, h1.2.1.symm, h1.2.2.symm⟩
theorem NT_sound {ts : List ByteArray} {k n : Int} {ks : Fo} (h : NT ts = some ((k, n, ks), [])) : (Fo.cons k n ks .nil).okT ∧ ts = txT (.cons k n ks .nil) := by
  have := Gr.N_sound HT_sound HT_less h
  exact ⟨this.2, this.1⟩
theorem NT_all {k n : Int} {ks : Fo} (h : (Fo.cons k n ks .nil).okT) : NT (txT (.cons k n ks .nil)) = some ((k, n, ks), []) :=
  Gr.N_all (by decide) (by decide) (by decide) (fun k n z h _ => HT_all k n z h) (fun k n _ => by simp [hdT]) HT_less h
end Go.Proofs.YtmbcfijhlpeddaaDoor
/- The tokens of a tree's text. -/
namespace Go.Proofs.YtmbcfijhlpeddaaDoor
open Go.ChangeShapes Go.WideShapes Go.ChangeAt Go.RowKit
set_option linter.unusedVariables false
set_option linter.unusedSimpArgs false

/-- Tokens lie one behind the other. -/
def Ch : Nat → List (Int × Nat × Nat) → Nat → Prop
  | a, [], n => a = n
  | a, (_, x, y) :: r, n => x = a ∧ x ≤ y ∧ Ch y r n
theorem Ch.le : ∀ {l : List (Int × Nat × Nat)} {a n : Nat}, Ch a l n → a ≤ n
  | [], _, _, h => by unfold Ch at h; omega
  | (_, x, y) :: r, a, n, h => by
    unfold Ch at h
    have := Ch.le h.2.2
    omega
theorem Ch.snoc : ∀ {l : List (Int × Nat × Nat)} {a n : Nat} (k : Int) (m : Nat), Ch a l n → n ≤ m → Ch a (l ++ [(k, n, m)]) m
  | [], a, n, k, m, h, hm => by unfold Ch at h; subst h; exact ⟨rfl, hm, rfl⟩
  | (_, x, y) :: r, a, n, k, m, h, hm => ⟨h.1, h.2.1, Ch.snoc k m h.2.2 hm⟩
theorem Ch.init : ∀ {l : List (Int × Nat × Nat)} {a n b : Nat} {k : Int} {x : Nat}, Ch a (l ++ [(k, x, b)]) n → Ch a l x ∧ x ≤ b ∧ b = n
  | [], a, n, b, k, x, h => by
    simp only [List.nil_append] at h
    unfold Ch at h
    obtain ⟨h1, h2, h3⟩ := h
    unfold Ch at h3
    exact ⟨h1.symm, h2, h3⟩
  | (_, p, q) :: r, a, n, b, k, x, h => by
    have h' : p = a ∧ p ≤ q ∧ Ch q (r ++ [(k, x, b)]) n := h
    obtain ⟨h4, h5⟩ := Ch.init h'.2.2
    exact ⟨⟨h'.1, h'.2.1, h4⟩, h5⟩
theorem tk_ch {s : ByteArray} : ∀ {i : Nat} {l : List (Int × Nat × Nat)}, tk s i = some l → Ch 0 l i := by
  intro i
  induction i with
  | zero => intro l h; simp [tk] at h; subst h; rfl
  | succ i ih =>
    intro l h
    simp only [tk] at h
    cases hp : tk s i with
    | none => simp [hp] at h
    | some m =>
      simp only [hp] at h
      have hm := ih hp
      by_cases h0 : kd (bt s i) = 0
      · simp [h0] at h
      · simp only [h0, if_false] at h
        rcases List.eq_nil_or_concat m with hnil | ⟨t, ⟨k, a, b⟩, hcon⟩
        · subst hnil
          simp only [List.getLast?_nil, Option.some.injEq] at h
          subst h
          exact hm.snoc _ _ (Nat.le_succ _)
        · rw [List.concat_eq_append] at hcon
          subst hcon
          simp only [List.getLast?_concat] at h
          split at h
          · simp only [Option.some.injEq, List.dropLast_concat] at h
            subst h
            obtain ⟨h1, h2, h3⟩ := hm.init
            exact h1.snoc k (i + 1) (by omega)
          · simp only [Option.some.injEq] at h
            subst h
            exact hm.snoc _ _ (Nat.le_succ _)

def ext (s : ByteArray) (l : List (Int × Nat × Nat)) : List ByteArray := l.map fun x => s.extract x.2.1 x.2.2
theorem flat_ext (s : ByteArray) : ∀ {l : List (Int × Nat × Nat)} {a n : Nat}, Ch a l n → flat (ext s l) = (s.data.toList.take n).drop a
  | [], a, n, h => by
    unfold Ch at h
    subst h
    show [] = _
    rw [List.drop_take]; simp
  | (k, x, y) :: r, a, n, h => by
    unfold Ch at h
    obtain ⟨rfl, hy, hr⟩ := h
    have hn := hr.le
    have ih := flat_ext s hr
    show flat ([s.extract x y] ++ ext s r) = _
    rw [flat_app, ih]
    show flat [s.extract x y] ++ _ = _
    have e1 : flat [s.extract x y] = (s.data.toList.drop x).take (y - x) := by
      simp only [flat, List.flatMap_cons, List.flatMap_nil, List.append_nil]
      rw [Lib.extract_data]
    rw [e1, List.drop_take, List.drop_take, show n - x = (y - x) + (n - y) by omega, List.take_add, List.drop_drop, show x + (y - x) = y by omega]

/-- One token's bytes. -/
def Pc (c : Int) (t : ByteArray) : Prop := 1 ≤ t.size ∧ (∀ b ∈ t.data.toList, kd (b.toNat : Int) = c) ∧ c ≠ 0 ∧ (c = 3 → t.size = 1)
theorem piece_run {s : ByteArray} {i : Nat} {c : Int} {l : List (Int × Nat × Nat)} (h0 : c ≠ 0) (h3 : c < 3) : ∀ (m j : Nat), tk s j = some (l ++ [(c, i, j)]) → (∀ x, j ≤ x → x < j + m → kd (bt s x) = c) → tk s (j + m) = some (l ++ [(c, i, j + m)]) := by
  intro m
  induction m with
  | zero => intro j h _; exact h
  | succ m ih =>
    intro j h hk
    have h1 := tk_more h h0 h3 (hk j (Nat.le_refl _) (by omega))
    have := ih (j + 1) h1 (fun x hx hy => hk x (by omega) (by omega))
    rw [show j + (m + 1) = j + 1 + m by omega]
    exact this
theorem piece_step {s t : ByteArray} {i : Nat} {c : Int} {l : List (Int × Nat × Nat)} {rest : List UInt8} (h : tk s i = some l) (hl : ∀ k a b, l.getLast? = some (k, a, b) → c = 3 ∨ k ≠ c) (hp : Pc c t) (he : s.data.toList.drop i = t.data.toList ++ rest) :
    tk s (i + t.size) = some (l ++ [(c, i, i + t.size)]) ∧ s.extract i (i + t.size) = t ∧ i + t.size ≤ s.size := by
  obtain ⟨h1, hk, h0, h3⟩ := hp
  have hlen := congrArg List.length he
  rw [List.length_drop, List.length_append, ← Lib.size_eq, ← Lib.size_eq] at hlen
  have hle : i + t.size ≤ s.size := by omega
  have hb : ∀ x, i ≤ x → x < i + t.size → kd (bt s x) = c := fun x hx hy => by
    have e1 := bt_list s x (by omega)
    have e2 : (s.data.toList.drop i)[x - i]? = s.data.toList[x]? := by rw [List.getElem?_drop, show i + (x - i) = x by omega]
    rw [he, List.getElem?_append_left (by rw [← Lib.size_eq]; omega), e1.1] at e2
    rw [e1.2]
    exact hk _ (List.mem_of_getElem? e2)
  refine ⟨?_, ?_, hle⟩
  · have hb0 := hb i (Nat.le_refl _) (by omega)
    have hpush := tk_push h (by rw [hb0]; exact h0) (fun k a b e => by rw [hb0]; exact hl k a b e)
    rw [hb0] at hpush
    by_cases e3 : c = 3
    · rw [h3 e3]; exact hpush
    · have hlt : c < 3 := by
        have := kd_le (bt s i); rw [hb0] at this; omega
      have := piece_run h0 hlt (t.size - 1) (i + 1) hpush (fun x hx hy => hb x (by omega) (by omega))
      rw [show i + 1 + (t.size - 1) = i + t.size by omega] at this
      exact this
  · apply ba_ext
    rw [Lib.extract_data, he, show i + t.size - i = t.size by omega, Lib.size_eq, List.take_left]
def Alt : Int → List ByteArray → Prop
  | _, [] => True
  | p, t :: r => ∃ c, Pc c t ∧ (c = 3 ∨ p ≠ c) ∧ Alt c r
theorem tk_alt {s : ByteArray} : ∀ (ps : List ByteArray) (p : Int) (i : Nat) (l : List (Int × Nat × Nat)), i ≤ s.size → tk s i = some l → (∀ k a b, l.getLast? = some (k, a, b) → k = p) → Alt p ps → s.data.toList.drop i = flat ps → ∃ l', tk s s.size = some (l ++ l') ∧ ext s l' = ps
  | [], p, i, l, hi, h, _, _, he => by
    have hlen := congrArg List.length he
    rw [List.length_drop, ← Lib.size_eq] at hlen
    have : i = s.size := by
      have : (flat []).length = 0 := rfl
      omega
    subst this
    exact ⟨[], by rw [List.append_nil]; exact h, rfl⟩
  | t :: r, p, i, l, hi, h, hl, ⟨c, hp, hc, ha⟩, he => by
    have he2 : s.data.toList.drop i = t.data.toList ++ flat r := by rw [he]; rfl
    obtain ⟨h1, h2, h3⟩ := piece_step h (fun k a b e => by
      rcases hc with hc | hc
      · exact .inl hc
      · exact .inr (by rw [hl k a b e]; exact hc)) hp he2
    obtain ⟨l', h4, h5⟩ := tk_alt r c (i + t.size) _ h3 h1 (fun k a b e => by
      rw [List.getLast?_concat] at e
      simp only [Option.some.injEq, Prod.mk.injEq] at e
      exact e.1.symm) ha (by rw [← List.drop_drop, he2, Lib.size_eq, List.drop_left])
    refine ⟨(c, i, i + t.size) :: l', ?_, ?_⟩
    · rw [h4]; simp
    · show s.extract i (i + t.size) :: ext s l' = _
      rw [h2, h5]
theorem wrd_kd : ∀ i : Fin 8, i.val ≠ 0 → ((wrd i.val).data.toList.all fun b => decide (kd (b.toNat : Int) = 1)) = true := by decide +kernel
theorem pc_wrd {k : Int} (h : 1 ≤ k ∧ k ≤ 7) : Pc 1 (wrd k) := by
  refine ⟨by rw [Lib.size_eq]; exact wrd_len h, fun b hb => ?_, by decide, fun e => by cases e⟩
  have := wrd_kd ⟨k.toNat, by omega⟩ (by show k.toNat ≠ 0; omega)
  rw [show (((⟨k.toNat, by omega⟩ : Fin 8).val : Nat) : Int) = k from Int.toNat_of_nonneg (by omega)] at this
  exact of_decide_eq_true (List.all_eq_true.1 this b hb)
theorem pc_dig {n : Nat} (h : n ≤ 999999999) : Pc 2 ⟨(Lib.decDigits n).toArray⟩ := by
  have hl := dec_len h
  refine ⟨by rw [Lib.size_eq]; simpa using hl.1, fun b hb => ?_, by decide, fun e => by cases e⟩
  have := dec_dig n b (by simpa using hb)
  unfold kd
  rw [if_neg (by omega), if_pos (by omega)]
theorem pc_op : Pc 3 opB := ⟨by decide, by decide, by decide, fun _ => rfl⟩
theorem pc_cl : Pc 3 clB := ⟨by decide, by decide, by decide, fun _ => rfl⟩
theorem pc_cm : Pc 3 cmB := ⟨by decide, by decide, by decide, fun _ => rfl⟩
theorem alt_tx : ∀ (x : Fo) (p : Int) (tail : List ByteArray), x.okT → x.len ≠ 0 → p ≠ 1 → (∀ q, q = 2 ∨ q = 3 → Alt q tail) → Alt p (txT x ++ tail) := by
  intro x
  induction x with
  | nil => intro p tail _ h; simp [Fo.len] at h
  | cons k n ks r ihk ihr =>
    intro p tail ho _ hp ht
    obtain ⟨⟨hk, h0, h9⟩, hok, hor⟩ := ho
    have hB : ∀ q, q = 2 ∨ q = 3 → Alt q ((if r.len = 0 then [] else cmB :: Gr.tx hdT opB clB cmB r) ++ tail) := fun q hq => by
      by_cases hr : r.len = 0
      · rw [if_pos hr]; exact ht q hq
      · rw [if_neg hr]
        exact ⟨3, pc_cm, .inl rfl, ihr 3 tail hor hr (by decide) ht⟩
    unfold txT
    rw [Gr.tx]
    refine ⟨1, pc_wrd hk, .inr hp, 2, pc_dig (by omega), .inr (by decide), ?_⟩
    show Alt 2 (([] ++ (_ ++ _)) ++ tail)
    rw [List.nil_append, List.append_assoc]
    by_cases hk : ks.len = 0
    · rw [if_pos hk]; exact hB 2 (.inl rfl)
    · rw [if_neg hk]
      refine ⟨3, pc_op, .inl rfl, ?_⟩
      show Alt 3 ((txT ks ++ [clB]) ++ _)
      rw [List.append_assoc]
      exact ihk 3 _ hok hk (by decide) (fun q _ => ⟨3, pc_cl, .inl rfl, hB 3 (.inr rfl)⟩)
theorem tk_tx {s : ByteArray} {k n : Int} {ks : Fo} (h : (Fo.cons k n ks .nil).okT) (e : s.data.toList = txB (.cons k n ks .nil)) : ∃ l, tk s s.size = some l ∧ ext s l = txT (.cons k n ks .nil) := by
  have ha := alt_tx _ 0 [] h (by simp [Fo.len]) (by decide) (fun _ _ => trivial)
  rw [List.append_nil] at ha
  obtain ⟨l, h1, h2⟩ := tk_alt (s := s) _ 0 0 [] (Nat.zero_le _) rfl (by simp) ha (by rw [List.drop_zero, txT_flat]; exact e)
  exact ⟨l, h1, h2⟩
theorem NT_what {s : ByteArray} {l : List (Int × Nat × Nat)} (hl : tk s s.size = some l) (k n : Int) (ks : Fo) : NT (ext s l) = some ((k, n, ks), []) ↔ (Fo.cons k n ks .nil).okT ∧ s.data.toList = txB (.cons k n ks .nil) := by
  constructor
  · intro h
    obtain ⟨h1, h2⟩ := NT_sound h
    refine ⟨h1, ?_⟩
    have := flat_ext s (tk_ch hl)
    rw [h2, txT_flat, List.drop_zero, Lib.size_eq, List.take_length] at this
    exact this.symm
  · rintro ⟨h1, h2⟩
    obtain ⟨l', h3, h4⟩ := tk_tx h1 h2
    rw [h3] at hl
    obtain rfl := Option.some.inj hl
    rw [h4]
    exact NT_all h1
theorem tk_none_tx {s : ByteArray} (hl : tk s s.size = none) (k n : Int) (ks : Fo) : ¬ ((Fo.cons k n ks .nil).okT ∧ s.data.toList = txB (.cons k n ks .nil)) := by
  rintro ⟨h1, h2⟩
  obtain ⟨l', h3, -⟩ := tk_tx h1 h2
  rw [h3] at hl; cases hl
theorem tx_cntB {k n : Int} {ks : Fo} (h : (Fo.cons k n ks .nil).okT) : ks.cnt + 1 ≤ (txB (.cons k n ks .nil)).length := by
  have := tx_cnt (op := (40 : UInt8)) (cl := 41) (cm := 44) hdB_len _ h
  simpa [Fo.cnt, txB] using this
end Go.Proofs.YtmbcfijhlpeddaaDoor
/- Rows of nodes that grow by append, whose kids may lie in memory laid later than the row. -/
namespace Go.Proofs.YtmbcfijhlpeddaaDoor
open Go.ChangeShapes Go.WideShapes Go.ChangeAt Go.RowKit
set_option linter.unusedVariables false
set_option linter.unusedSimpArgs false
/-- The nodes lie from place o of block b on, in the blocks S. -/
def Fo.AtS (w : World) (S : Nat → Prop) : Fo → Nat → Nat → Prop
  | nil, _, _ => True
  | cons k n ks r, b, o => S b ∧ w.cell? ⟨b, o, none⟩ = some (.int .i64 k) ∧ w.cell? ⟨b, o + 1, none⟩ = some (.int .i64 n) ∧
    (∃ a c, w.cell? ⟨b, o + 2, none⟩ = some (.slice a ks.len c) ∧ ks.len ≤ c ∧ c ≤ maxLen ∧ (ks.len = 0 ∨ ∃ b' o', a = some ⟨b', o', none⟩ ∧ ks.AtS w S b' o')) ∧ r.AtS w S b (o + 3)
theorem Fo.AtS.of : ∀ {f : Fo} {w : World} {lim b o : Nat} (_ : f.At w lim b o), f.AtS w (fun b => b < lim) b o
  | .nil, _, _, _, _, _ => trivial
  | .cons _ _ ks r, w, lim, b, o, ⟨hb, c0, c1, ⟨a, c, c2, h1, h2, h3⟩, hr⟩ => by
    refine ⟨hb, c0, c1, ⟨a, c, c2, h1, h2, ?_⟩, Fo.AtS.of hr⟩
    rcases h3 with h3 | ⟨b', o', e, h3⟩
    · exact .inl h3
    · exact .inr ⟨b', o', e, Fo.AtS.of h3⟩
theorem Fo.AtS.to : ∀ {f : Fo} {w : World} {S : Nat → Prop} {lim b o : Nat} (_ : f.AtS w S b o) (_ : ∀ b, S b → b < lim), f.At w lim b o
  | .nil, _, _, _, _, _, _, _ => trivial
  | .cons _ _ ks r, w, S, lim, b, o, ⟨hb, c0, c1, ⟨a, c, c2, h1, h2, h3⟩, hr⟩, hS => by
    refine ⟨hS _ hb, c0, c1, ⟨a, c, c2, h1, h2, ?_⟩, Fo.AtS.to hr hS⟩
    rcases h3 with h3 | ⟨b', o', e, h3⟩
    · exact .inl h3
    · exact .inr ⟨b', o', e, Fo.AtS.to h3 hS⟩
theorem Fo.AtS.carry : ∀ {f : Fo} {w w' : World} {S S' : Nat → Prop} {b o : Nat} (_ : f.AtS w S b o) (_ : ∀ b, S b → S' b ∧ w'.heap[b]? = w.heap[b]?), f.AtS w' S' b o
  | .nil, _, _, _, _, _, _, _, _ => trivial
  | .cons _ _ ks r, w, w', S, S', b, o, ⟨hb, c0, c1, ⟨a, c, c2, h1, h2, h3⟩, hr⟩, hS => by
    have hw := (hS b hb).2
    refine ⟨(hS b hb).1, (World.cell?_of_block (a := ⟨b, o, none⟩) hw).trans c0, (World.cell?_of_block (a := ⟨b, o + 1, none⟩) hw).trans c1, ⟨a, c, (World.cell?_of_block (a := ⟨b, o + 2, none⟩) hw).trans c2, h1, h2, ?_⟩, Fo.AtS.carry hr hS⟩
    rcases h3 with h3 | ⟨b', o', e, h3⟩
    · exact .inl h3
    · exact .inr ⟨b', o', e, Fo.AtS.carry h3 hS⟩
def KidsS (w : World) (S : Nat → Prop) (v : Value) (f : Fo) : Prop := ∃ a c, v = .slice a f.len c ∧ f.len ≤ c ∧ c ≤ maxLen ∧ (f.len = 0 ∨ ∃ b o, a = some ⟨b, o, none⟩ ∧ f.AtS w S b o)
theorem KidsS.of {w : World} {lim : Nat} {v : Value} {f : Fo} (h : Kids w lim v f) : KidsS w (fun b => b < lim) v f := by
  obtain ⟨a, c, rfl, h1, h2, h3⟩ := h
  exact ⟨a, c, rfl, h1, h2, h3.imp id (fun ⟨b, o, e, h⟩ => ⟨b, o, e, .of h⟩)⟩
theorem KidsS.to {w : World} {S : Nat → Prop} {lim : Nat} {v : Value} {f : Fo} (h : KidsS w S v f) (hS : ∀ b, S b → b < lim) : Kids w lim v f := by
  obtain ⟨a, c, rfl, h1, h2, h3⟩ := h
  exact ⟨a, c, rfl, h1, h2, h3.imp id (fun ⟨b, o, e, h⟩ => ⟨b, o, e, h.to hS⟩)⟩
theorem KidsS.carry {w w' : World} {S S' : Nat → Prop} {v : Value} {f : Fo} (h : KidsS w S v f) (hS : ∀ b, S b → S' b ∧ w'.heap[b]? = w.heap[b]?) : KidsS w' S' v f := by
  obtain ⟨a, c, rfl, h1, h2, h3⟩ := h
  exact ⟨a, c, rfl, h1, h2, h3.imp id (fun ⟨b, o, e, h⟩ => ⟨b, o, e, h.carry hS⟩)⟩
/-- Cells that hold these nodes, three to a node. -/
def NodsS (w : World) (S : Nat → Prop) : List Value → List Nd → Prop
  | xs, [] => xs = []
  | xs, d :: l => ∃ v ys, xs = .int .i64 d.k :: .int .i64 d.n :: v :: ys ∧ KidsS w S v d.ks ∧ NodsS w S ys l
theorem NodsS.len : ∀ {w : World} {S : Nat → Prop} {xs : List Value} {l : List Nd}, NodsS w S xs l → xs.length = l.length * 3
  | _, _, _, [], h => by rw [show _ = [] from h]; rfl
  | _, _, _, d :: l, ⟨v, ys, e, _, h⟩ => by rw [e]; simp [NodsS.len h]; omega
theorem NodsS.append : ∀ {w : World} {S : Nat → Prop} {xs ys : List Value} {l m : List Nd}, NodsS w S xs l → NodsS w S ys m → NodsS w S (xs ++ ys) (l ++ m)
  | _, _, _, _, [], _, h, h2 => by rw [show _ = [] from h]; exact h2
  | _, _, _, _, d :: l, m, ⟨v, zs, e, hk, h⟩, h2 => by rw [e]; exact ⟨v, _, rfl, hk, NodsS.append h h2⟩
theorem NodsS.carry : ∀ {w w' : World} {S S' : Nat → Prop} {xs : List Value} {l : List Nd}, NodsS w S xs l → (∀ b, S b → S' b ∧ w'.heap[b]? = w.heap[b]?) → NodsS w' S' xs l
  | _, _, _, _, _, [], h, _ => h
  | _, _, _, _, _, d :: l, ⟨v, ys, e, hk, h⟩, hb => ⟨v, ys, e, hk.carry hb, h.carry hb⟩
theorem NodsS.one : ∀ {w : World} {S : Nat → Prop} {xs : List Value} {l : List Nd}, NodsS w S xs l → ∀ u ∈ xs, u.oneCell' = true
  | _, _, _, [], h, u, hu => by rw [show _ = [] from h] at hu; cases hu
  | _, _, _, d :: l, ⟨v, ys, e, hk, h⟩, u, hu => by
    obtain ⟨a, c, rfl, _⟩ := hk
    rw [e] at hu
    simp only [List.mem_cons] at hu
    rcases hu with rfl | rfl | rfl | hu
    · rfl
    · rfl
    · rfl
    · exact NodsS.one h u hu
/-- The nodes of a row. -/
def Fo.top : Fo → List Nd
  | .nil => []
  | .cons k n ks r => ⟨k, n, ks⟩ :: r.top
theorem Fo.top_len : ∀ f : Fo, f.top.length = f.len
  | .nil => rfl
  | .cons _ _ _ r => by simp [Fo.top, Fo.len, Fo.top_len r]
theorem Fo.top_at : ∀ (f : Fo) (i : Nat), i < f.len → f.top[i]? = some ⟨f.k i, f.n i, f.kids i⟩
  | .nil, _, h => by simp [Fo.len] at h
  | .cons _ _ _ r, 0, _ => rfl
  | .cons _ _ _ r, i + 1, h => by
    have := Fo.top_at r i (by simp [Fo.len] at h; omega)
    simpa [Fo.top, Fo.k, Fo.n, Fo.kids] using this
theorem nodsS_at {w : World} {S S' : Nat → Prop} {g : Nat} (hS : ∀ b, S b → S' b) (hg : S' g) : ∀ (f : Fo) (xs : List Value) (o : Nat), NodsS w S xs f.top → (∀ j u, xs[j]? = some u → w.cell? ⟨g, o + j, none⟩ = some u) → f.AtS w S' g o
  | .nil, _, _, _, _ => trivial
  | .cons k n ks r, xs, o, ⟨v, ys, e, hk, h⟩, hc => by
    subst e
    obtain ⟨a, c, rfl, h1, h2, h3⟩ := hk
    refine ⟨hg, hc 0 _ rfl, hc 1 _ rfl, ⟨a, c, hc 2 _ rfl, h1, h2, h3.imp id (fun ⟨b', o', e', h'⟩ => ⟨b', o', e', h'.carry (fun b hb => ⟨hS b hb, rfl⟩)⟩)⟩, nodsS_at hS hg r ys (o + 3) h (fun j u hu => ?_)⟩
    have := hc (j + 3) u (by simpa using hu)
    rw [show o + 3 + j = o + (j + 3) by omega]
    exact this
theorem top_take (f : Fo) (i : Nat) (h : i < f.len) : f.top.take (i + 1) = f.top.take i ++ [⟨f.k i, f.n i, f.kids i⟩] := by
  rw [List.take_add_one, Fo.top_at f i h]; rfl
theorem top_take_all (f : Fo) : f.top.take f.len = f.top := by rw [← Fo.top_len]; exact List.take_length
/-- The blocks of the world, but for a row's own. -/
def offB (w : World) (lim B : Nat) (v : Value) (b : Nat) : Prop := b < w.heap.size ∧ v.ownBlock ≠ some b ∧ (b < lim ∨ B ≤ b)
/-- A row of nodes of the call's own; the kids lie anywhere but in it. -/
def OwnT (w : World) (lim B : Nat) (v : Value) (l : List Nd) : Prop := ∃ xs, w.ownsRow B 35 3 v l.length xs ∧ NodsS w (offB w lim B v) xs l
theorem OwnT.nil (w : World) (lim B : Nat) : OwnT w lim B (.slice none 0 0) [] := ⟨[], World.ownsRow_nil w B 35 3, rfl⟩
/-- What leaves the row's block, and all others that there are, as they are. -/
theorem OwnT.below {w w' : World} {lim B : Nat} {v : Value} {l : List Nd} (h : OwnT w lim B v l) (hb : Below w.heap.size w w') : OwnT w' lim B v l := by
  obtain ⟨xs, h1, h2⟩ := h
  exact ⟨xs, World.ownsRow.kept h1 (row := none) ⟨hb.os, hb.tape, hb.output, hb.size, fun i hi _ => hb.block i hi⟩ (by
    by_cases hn : v.ownBlock = none
    · exact .inl hn
    · exact .inr hn), h2.carry (fun b ⟨h3, h4⟩ => ⟨⟨Nat.lt_of_lt_of_le h3 hb.size, h4⟩, hb.block b h3⟩)⟩
/-- A store into a block between. -/
theorem OwnT.keep {w w' : World} {lim B X : Nat} {v : Value} {l : List Nd} (h : OwnT w lim B v l) (hb : But w w' X) (hlX : lim ≤ X) (hXB : X < B) : OwnT w' lim B v l := by
  obtain ⟨xs, h1, h2⟩ := h
  have hz := hb.z
  have hb0 := hb.b 0 (Nat.zero_le _) (Nat.zero_le _)
  refine ⟨xs, World.ownsRow.kept h1 (row := some X) ⟨hb0.os, hb0.tape, hb0.output, hz, fun i hi hne => hb.o i hi (fun e => hne (by rw [e]))⟩ (by
    by_cases hn : v.ownBlock = none
    · exact .inl hn
    · exact .inr (fun e => by have := (World.ownsRow.lt h1 X e).1; omega)), h2.carry (fun b ⟨h3, h4, h5⟩ => ⟨⟨Nat.lt_of_lt_of_le h3 hz, h4, h5⟩, hb.o b h3 (by omega)⟩)⟩
/-- 'append(l, m...)' of one node at least onto such a row, at the operation. -/
theorem wp_append_t {o : Oper} {a : Act} {K : Act → World → Prop} {Q : Exit → Act → World → Prop} {W : World} {lim B : Nat} {v : Value} {l l2 : List Nd} {ad : Addr} {m c : Nat} {news : List Value} (s x : Operand)
    (ho : o.op = .call { callee := .builtin .append, args := #[s, x], argTypes := #[33, 33] }) (hs : a.eval s = v) (hown : OwnT W lim B v l) (hx : a.eval x = .slice (some ad) m c) (hm : l2.length = m) (hn : NodsS W (offB W lim B v) news l2) (hc : ∀ j u, news[j]? = some u → W.cell? (ad.add j) = some u)
    (hB : B ≤ W.heap.size) (h0 : 0 < m) (hlen : l.length + m ≤ 1099511627776)
    (h : ∀ v' w', OwnT w' lim B v' (l ++ l2) → W.grownBy w' v.ownBlock → K (a.put o.dst v') w') : o.wp Tryd.prog a W K Q := by
  obtain ⟨i0, hi⟩ : ∃ i, Tryd.prog.info? 35 = some i := by
    cases h0 : Tryd.prog.info? 35 with
    | none => have := info_desc; rw [h0] at this; cases this
    | some i => exact ⟨i, rfl⟩
  have h1 := info_desc
  rw [hi] at h1
  simp only [Option.map_some, Option.some.injEq, Prod.mk.injEq] at h1
  obtain ⟨hz, hsz, hby⟩ := h1
  obtain ⟨z, hz1, hz2⟩ : ∃ z, i0.zero = some z ∧ z.cells.size = 3 := by
    cases h0 : i0.zero with
    | none => rw [h0] at hz; cases hz
    | some z => rw [h0] at hz; simp at hz; exact ⟨z, rfl, hz⟩
  obtain ⟨xs, ho1, ho2⟩ := hown
  refine wp_append_lies _ s x 33 ho B 35 i0 z 3 40 Tryd.underlying33 hi hz1 hsz hby hz2 (by decide) v l.length xs hs ho1 ad m c news hx (by rw [hn.len, hm]) hc hn.one h0 (by unfold maxLen; omega) (by omega) hB _ rfl ?_
  intro g cap w' h2 h3 h4 _
  refine h _ w' ⟨_, by rw [List.length_append, hm]; exact h2, (ho2.append hn).carry (fun b ⟨hb1, hb2, hb3⟩ => ⟨⟨Nat.lt_of_lt_of_le hb1 h3.size, fun e => ?_, hb3⟩, h3.block b hb1 (fun e => hb2 e.symm)⟩)⟩ h3
  have e' : g = b := by simpa [Value.ownBlock] using e
  subst e'
  rcases h4 with h4 | h4
  · exact hb2 h4
  · omega
/-- At the end: the row's value, with all that is below it. -/
theorem OwnT.kidsS {w : World} {lim B : Nat} {v : Value} {f : Fo} (h : OwnT w lim B v f.top) : KidsS w (fun b => b < w.heap.size ∧ (b < lim ∨ B ≤ b)) v f := by
  obtain ⟨xs, ⟨h0, h1⟩, h2⟩ := h
  rw [Fo.top_len] at h1
  rcases h1 with ⟨rfl, hn⟩ | ⟨g, cap, cur, rfl, hb, hh, hn, hm, hs, ht⟩
  · exact ⟨none, 0, by rw [hn], by omega, by unfold maxLen; omega, .inl (by omega)⟩
  · have hg : g < w.heap.size := Nat.lt_of_not_le fun hn => by rw [Array.getElem?_eq_none hn] at hh; cases hh
    refine ⟨_, cap, rfl, by omega, hm, .inr ⟨g, 0, rfl, nodsS_at (fun b hb => ⟨hb.1, hb.2.2⟩) ⟨hg, .inr hb⟩ f xs 0 h2 (fun j u hu => ?_)⟩⟩
    rw [Fo.top_len] at h0
    have hj : j < f.len * 3 := by rw [← h0]; exact (List.getElem?_eq_some_iff.1 hu).1
    rw [Nat.zero_add, cell_of_row w g j _ _ _ hh, ← hu, ← ht, List.getElem?_take, if_pos hj]
    simp
theorem OwnT.kids {w : World} {lim B : Nat} {v : Value} {f : Fo} (h : OwnT w lim B v f.top) : Kids w w.heap.size v f := h.kidsS.to (fun _ hb => hb.1)
theorem OwnT.ownLe {w : World} {lim B : Nat} {v : Value} {l : List Nd} (h : OwnT w lim B v l) : ∀ i, v.ownBlock = some i → B ≤ i := fun i hi => by
  obtain ⟨xs, h1, _⟩ := h
  exact (World.ownsRow.lt h1 i hi).1
theorem OwnT.ownLt {w : World} {lim B : Nat} {v : Value} {l : List Nd} (h : OwnT w lim B v l) : ∀ i, v.ownBlock = some i → i < w.heap.size := fun i hi => by
  obtain ⟨xs, h1, _⟩ := h
  exact (World.ownsRow.lt h1 i hi).2
theorem OwnT.form {w : World} {lim B : Nat} {v : Value} {l : List Nd} (h : OwnT w lim B v l) : ∃ a n c, v = .slice a n c := by
  obtain ⟨xs, ⟨_, h1⟩, _⟩ := h
  rcases h1 with ⟨rfl, hn⟩ | ⟨g, cap, cur, rfl, _⟩
  · exact ⟨none, 0, 0, rfl⟩
  · exact ⟨_, _, cap, rfl⟩
end Go.Proofs.YtmbcfijhlpeddaaDoor
/- The reader as one fact: its place among the tokens' texts. -/
namespace Go.Proofs.YtmbcfijhlpeddaaDoor
open Go.ChangeShapes Go.WideShapes Go.ChangeAt Go.RowKit
set_option linter.unusedVariables false
set_option linter.unusedSimpArgs false
theorem But.drewN (w : World) (B q : Nat) : But w (w.drewN q) B := ⟨fun _ _ _ => rfl, Nat.le_refl _, fun H _ h2 => by
  have h := Lib.below_grow H w h2 q #[]
  have e : Go.Sort.grow (w.drewN q) #[] = w.drewN q := Go.Sort.grow_empty _
  rw [e] at h; exact h⟩

end Go.Proofs.YtmbcfijhlpeddaaDoor
/- 'append(l, d)' of one node onto a row of the call's own, whose kids lie in later memory. -/
namespace Go.Proofs.YtmbcfijhlpeddaaDoor
open Go.ChangeShapes Go.WideShapes Go.ChangeAt Go.RowKit
set_option linter.unusedVariables false
set_option linter.unusedSimpArgs false
theorem append_t1 {ops : Array Oper} {rest : List Oper} {o : Oper} {a : Act} {Q : Exit → Act → World → Prop} {W : World} {lim B : Nat} {v : Value} {l : List Nd} {d : Nd} {u : Value} {S : Nat → Prop} (hgd : o.guard = none) (s x : Operand)
    (ho : o.op = .call { callee := .builtin .append, args := #[s, x], argTypes := #[33, 33] }) (hs : a.eval s = v) (hown : OwnT W lim B v l) (hx : a.eval x = .slice (some ⟨W.heap.size, 0, none⟩) 1 1)
    (hk : KidsS W S u d.ks) (hS : ∀ b, S b → offB W lim B v b) (hB : B ≤ W.heap.size) (hlen : l.length ≤ 1000000)
    (h : ∀ v' w', OwnT w' lim B v' (l ++ [d]) → Below B W w' → wpList Tryd.prog ops Q rest (a.put o.dst v') w') : wpList Tryd.prog ops Q (o :: rest) a (W.alloc (.cells #[.int .i64 d.k, .int .i64 d.n, u] 35)) := by
  refine wpList_plain hgd fun K hK => ?_
  have hb : Below W.heap.size W (W.alloc (.cells #[.int .i64 d.k, .int .i64 d.n, u] 35)) := (Below.refl _ _).alloc (Nat.le_refl _) _
  refine wp_append_t (m := 1) (c := 1) (l2 := [d]) (news := [.int .i64 d.k, .int .i64 d.n, u]) (ad := ⟨W.heap.size, 0, none⟩) s x ho hs (hown.below hb) hx rfl ⟨u, [], rfl, ?_, rfl⟩ ?_ (by simp; omega) (by decide) (by omega) ?_
  · exact hk.carry (fun b hb2 => ⟨⟨Nat.lt_of_lt_of_le (hS b hb2).1 (by simp), (hS b hb2).2⟩, hb.block b (hS b hb2).1⟩)
  · intro j u' hj
    exact World.news_of_block (heap_alloc_new W (.cells #[.int .i64 d.k, .int .i64 d.n, u] 35)) j u' (by simpa using hj)
  · intro v' w' h1 h2
    exact hK _ _ (h v' w' h1 (((Below.refl _ _).alloc hB _).grown h2 (by simp; omega) hown.ownLe))
/-- A row's nodes, and what follows. -/
def mkF : List Nd → Fo → Fo
  | [], r => r
  | d :: l, r => .cons d.k d.n d.ks (mkF l r)
theorem mkF_top : ∀ (l : List Nd) (r : Fo), (mkF l r).top = l ++ r.top
  | [], r => rfl
  | d :: l, r => by simp [mkF, Fo.top, mkF_top l r]
theorem mkF_snoc : ∀ (l : List Nd) (d : Nd) (r : Fo), mkF l (.cons d.k d.n d.ks r) = mkF (l ++ [d]) r
  | [], d, r => rfl
  | e :: l, d, r => by simp [mkF, mkF_snoc l d r]
end Go.Proofs.YtmbcfijhlpeddaaDoor
/- dtext's reader: several nodes, and one. -/
namespace Go.Proofs.YtmbcfijhlpeddaaDoor
open Go.ChangeShapes Go.WideShapes Go.ChangeAt Go.RowKit
set_option linter.unusedVariables false
set_option linter.unusedSimpArgs false
theorem drop_head {ts : List ByteArray} {i : Nat} {t : ByteArray} (h : ts[i]? = some t) : ts.drop i = t :: ts.drop (i + 1) := by
  obtain ⟨h1, h2⟩ := List.getElem?_eq_some_iff.1 h
  rw [List.drop_eq_getElem_cons h1, h2]
theorem drop_not {ts : List ByteArray} {i : Nat} {t : ByteArray} (h : ts[i]? ≠ some t) : ∀ y, ts.drop i ≠ t :: y := fun y e => h (by
  have : (ts.drop i)[0]? = some t := by rw [e]; rfl
  rw [List.getElem?_drop] at this
  simpa using this)
/-- What was read, and what follows. -/
def aft (l : List Nd) : Option (Fo × List ByteArray) → Option (Fo × List ByteArray)
  | none => none
  | some (x, y) => some (mkF l x, y)
theorem aft_none {ts : List ByteArray} {i j : Nat} {l : List Nd} (h : ST (ts.drop i) = aft l (ST (ts.drop j))) (hn : NT (ts.drop j) = none) : ST (ts.drop i) = none := by
  rw [h, show ST (ts.drop j) = none from Gr.S_none HT_less hn]; rfl
theorem aft_end {ts : List ByteArray} {i j q : Nat} {l : List Nd} {k m : Int} {ks : Fo} (h : ST (ts.drop i) = aft l (ST (ts.drop j))) (hn : NT (ts.drop j) = some ((k, m, ks), ts.drop q)) (hz : ts[q]? ≠ some cmB) : ST (ts.drop i) = some (mkF l (.cons k m ks .nil), ts.drop q) := by
  rw [h, show ST (ts.drop j) = _ from Gr.S_end HT_less hn (drop_not hz)]; rfl
theorem aft_more {ts : List ByteArray} {i j q : Nat} {l : List Nd} {k m : Int} {ks : Fo} (h : ST (ts.drop i) = aft l (ST (ts.drop j))) (hn : NT (ts.drop j) = some ((k, m, ks), ts.drop q)) (hz : ts[q]? = some cmB) : ST (ts.drop i) = aft (l ++ [⟨k, m, ks⟩]) (ST (ts.drop (q + 1))) := by
  have e := Gr.S_more (op := opB) (cl := clB) (cm := cmB) (z := ts.drop (q + 1)) HT_less (by rw [← drop_head hz]; exact hn)
  rw [h, show ST (ts.drop j) = _ from e]
  show aft l _ = aft _ (Gr.S HT opB clB cmB (ts.drop (q + 1)))
  rcases Gr.S HT opB clB cmB (ts.drop (q + 1)) with _ | ⟨x, y⟩
  · rfl
  · show some (mkF l (.cons k m ks x), y) = some (mkF (l ++ [⟨k, m, ks⟩]) x, y)
    rw [mkF_snoc l ⟨k, m, ks⟩ x]
theorem aft_nil {ts : List ByteArray} {i : Nat} : ST (ts.drop i) = aft [] (ST (ts.drop i)) := by
  rcases ST (ts.drop i) with _ | ⟨x, y⟩ <;> rfl
theorem But.grow {W w2 w3 : World} {r : Nat} (h : But W w2 r) (hb : Below W.heap.size w2 w3) : But W w3 r :=
  ⟨fun x hx hne => (hb.block x hx).trans (h.o x hx hne), Nat.le_trans h.z hb.size, fun H h1 h2 => (h.b H h1 h2).trans (hb.mono h2)⟩
/-- The reader's place. -/
def rAt (w : World) (r : Nat) : Nat := match w.cell? ⟨r, 1, none⟩ with
  | some (.int _ i) => i.toNat
  | _ => 0
end Go.Proofs.YtmbcfijhlpeddaaDoor
