/- The texts of trees, as bytes and as tokens; heads of nodes. -/
import Derived.Test.YtakhgjhnljbfiaaGreatDoorGram
import Derived.Test.YtakhgjhnljbfiaaGreatDoorDtv
import Derived.Test.YtakhgjhnljbfiaaGreatDoorLexod
namespace Go.Proofs.YtakhgjhnljbfiaaGreatDoor
open Go.ChangeShapes Go.WideShapes Go.ChangeAt Go.RowKit
set_option linter.unusedVariables false
set_option linter.unusedSimpArgs false

/-- A number's digits, as a list. -/
def IsNL (D : List UInt8) : Prop := (1 ≤ D.length ∧ D.length ≤ 9 ∧ ¬ (D.head? = some 48 ∧ 1 < D.length)) ∧ ∀ b ∈ D, 48 ≤ b.toNat ∧ b.toNat ≤ 57
theorem bt_mem {s : ByteArray} {b : UInt8} (h : b ∈ s.data.toList) : ∃ i, i < s.size ∧ bt s i = b.toNat := by
  obtain ⟨i, hi, e⟩ := List.getElem_of_mem h
  have hs : i < s.size := by rw [Lib.size_eq]; exact hi
  refine ⟨i, hs, ?_⟩
  have h1 := bt_list s i hs
  rw [h1.2]
  have h2 := h1.1
  rw [List.getElem?_eq_getElem hi, e] at h2
  rw [← Option.some.inj h2]
theorem bt_head {s : ByteArray} (h : 0 < s.size) : s.data.toList.head? = some 48 ↔ bt s 0 = 48 := by
  have h1 := bt_list s 0 h
  rw [List.head?_eq_getElem?, h1.1, h1.2]
  constructor
  · intro e; rw [Option.some.inj e]; rfl
  · intro e; congr 1; exact UInt8.toNat_inj.1 e
theorem isN_list (s : ByteArray) : IsN s ↔ IsNL s.data.toList := by
  have hz := Lib.size_eq s
  unfold IsN IsNL
  rw [← hz]
  constructor
  · rintro ⟨⟨h1, h2, h3⟩, hd⟩
    refine ⟨⟨h1, h2, fun ⟨h4, h5⟩ => h3 ⟨(bt_head h1).1 h4, h5⟩⟩, fun b hb => ?_⟩
    obtain ⟨i, hi, e⟩ := bt_mem hb
    rw [← e]; exact hd i hi
  · rintro ⟨⟨h1, h2, h3⟩, hd⟩
    refine ⟨⟨h1, h2, fun ⟨h4, h5⟩ => h3 ⟨(bt_head h1).2 h4, h5⟩⟩, fun i hi => ?_⟩
    have h4 := bt_list s i hi
    rw [h4.2]
    exact hd _ (List.mem_of_getElem? h4.1)
theorem vl_all (s : ByteArray) : vl s s.size = vlL s.data.toList := by
  unfold vl; rw [Lib.size_eq, List.take_length]
theorem vlL_from : ∀ (l : List UInt8) (a : Nat), a ≤ l.foldl (fun a b => a * 10 + (b.toNat - 48)) a
  | [], a => Nat.le_refl a
  | b :: l, a => Nat.le_trans (by omega) (vlL_from l (a * 10 + (b.toNat - 48)))
theorem vlL_pos {b : UInt8} {l : List UInt8} (h : 48 < b.toNat) : 1 ≤ vlL (b :: l) := by
  have := vlL_from l (0 * 10 + (b.toNat - 48))
  unfold vlL
  rw [List.foldl_cons]
  omega
theorem dec_of : ∀ (m : Nat) (D : List UInt8), D.length = m → 1 ≤ m → (∀ b ∈ D, 48 ≤ b.toNat ∧ b.toNat ≤ 57) → ¬ (D.head? = some 48 ∧ 1 < D.length) → Lib.decDigits (vlL D) = D := by
  intro m
  induction m with
  | zero => intro D _ h; omega
  | succ m ih =>
    intro D hl _ hd hh
    rcases List.eq_nil_or_concat D with rfl | ⟨E, b, hE⟩
    · simp at hl
    · rw [List.concat_eq_append] at hE
      subst hE
      have hb := hd b (by simp)
      have hm : E.length = m := by simpa using hl
      rw [vlL_snoc]
      cases E with
      | nil =>
        rw [dec_small (by show 0 * 10 + _ < 10; omega)]
        simp only [List.nil_append, List.cons.injEq, and_true]
        apply UInt8.toNat_inj.1
        rw [u8_dig (by show 0 * 10 + _ < 10; omega)]
        show 48 + (0 * 10 + (b.toNat - 48)) = b.toNat
        omega
      | cons e E =>
        have hne : e ≠ 48 := fun h => hh ⟨by simp [h], by simp⟩
        have he := hd e (by simp)
        have hp : 1 ≤ vlL (e :: E) := vlL_pos (by
          have : e.toNat ≠ 48 := fun h => hne (UInt8.toNat_inj.1 h)
          omega)
        have := ih (e :: E) hm (by rw [← hm]; simp) (fun x hx => hd x (by simp only [List.mem_append]; exact .inl hx)) (fun ⟨h, _⟩ => hne (by simpa using h))
        rw [dec_big (by omega), show (vlL (e :: E) * 10 + (b.toNat - 48)) / 10 = vlL (e :: E) by omega, show (vlL (e :: E) * 10 + (b.toNat - 48)) % 10 = b.toNat - 48 by omega, this]
        congr 2
        apply UInt8.toNat_inj.1
        rw [u8_dig (by omega)]; omega
theorem isNL_dec {D : List UInt8} (h : IsNL D) : Lib.decDigits (vlL D) = D ∧ vlL D ≤ 999999999 := by
  refine ⟨dec_of D.length D rfl h.1.1 h.2 h.1.2.2, ?_⟩
  have h1 : IsN ⟨D.toArray⟩ := (isN_list _).2 (by simpa using h)
  have h2 := vl_small (Nat.le_refl _) h1.1.2.1 h1.2
  rw [vl_all] at h2
  have : vlL D < 1000000000 := by simpa using h2
  omega
theorem dec_isNL {n : Nat} (h : n ≤ 999999999) : IsNL (Lib.decDigits n) ∧ vlL (Lib.decDigits n) = n := by
  refine ⟨?_, dec_val n⟩
  have := (isN_list ⟨(Lib.decDigits n).toArray⟩).1 (dec_isN h _ (by simp)).1
  simpa using this

/-- A node's head, as bytes and as tokens. -/
def hdB (k n : Int) : List UInt8 := (wrd k).data.toList ++ Lib.decDigits n.toNat
def hdT (k n : Int) : List ByteArray := [wrd k, ⟨(Lib.decDigits n.toNat).toArray⟩]
theorem ba_ext {x y : ByteArray} (h : x.data.toList = y.data.toList) : x = y := ByteArray.ext (Array.toList_inj.1 h)

open Classical in
noncomputable def HT : List ByteArray → Option (Int × Int × List ByteArray)
  | w :: d :: z => if h : (∃ k : Int, (1 ≤ k ∧ k ≤ 7) ∧ wrd k = w) ∧ IsN d then some (h.1.choose, ((vl d d.size : Nat) : Int), z) else none
  | _ => none
theorem HT_yes {k : Int} {d : ByteArray} {z : List ByteArray} (hk : 1 ≤ k ∧ k ≤ 7) (hd : IsN d) : HT (wrd k :: d :: z) = some (k, ((vl d d.size : Nat) : Int), z) := by
  have h : (∃ k' : Int, (1 ≤ k' ∧ k' ≤ 7) ∧ wrd k' = wrd k) ∧ IsN d := ⟨⟨k, hk, rfl⟩, hd⟩
  rw [HT, dif_pos h, wrd_inj h.1.choose_spec.1 hk h.1.choose_spec.2]
theorem HT_word {w d : ByteArray} {z : List ByteArray} (h : ∀ k : Int, 1 ≤ k → k ≤ 7 → wrd k ≠ w) : HT (w :: d :: z) = none := by
  rw [HT, dif_neg]
  rintro ⟨⟨k, hk, e⟩, -⟩
  exact h k hk.1 hk.2 e
theorem HT_num {w d : ByteArray} {z : List ByteArray} (h : ¬ IsN d) : HT (w :: d :: z) = none := by
  rw [HT, dif_neg]
  exact fun e => h e.2
theorem HT_parts {ts : List ByteArray} {k n : Int} {z : List ByteArray} (h : HT ts = some (k, n, z)) : ∃ d, ts = wrd k :: d :: z ∧ (1 ≤ k ∧ k ≤ 7) ∧ IsN d ∧ n = ((vl d d.size : Nat) : Int) := by
  match ts, h with
  | [], h => simp [HT] at h
  | [_], h => simp [HT] at h
  | w :: d :: z', h =>
    rw [HT] at h
    split at h
    · rename_i hc
      simp only [Option.some.injEq, Prod.mk.injEq] at h
      obtain ⟨h1, h2, rfl⟩ := h
      have := hc.1.choose_spec
      rw [h1] at this
      exact ⟨d, by rw [this.2], this.1, hc.2, h2.symm⟩
    · cases h
theorem HT_less (ts : List ByteArray) (k n : Int) (z : List ByteArray) (h : HT ts = some (k, n, z)) : z.length < ts.length := by
  obtain ⟨d, rfl, -⟩ := HT_parts h
  simp; omega
theorem HT_sound (ts : List ByteArray) (k n : Int) (z : List ByteArray) (h : HT ts = some (k, n, z)) : ts = hdT k n ++ z ∧ okT1 k n := by
  obtain ⟨d, rfl, hk, hd, rfl⟩ := HT_parts h
  have h1 := isNL_dec ((isN_list d).1 hd)
  rw [← vl_all] at h1
  refine ⟨?_, hk, by omega, by omega⟩
  show _ = [_, _] ++ z
  have : (⟨(Lib.decDigits ((vl d d.size : Nat) : Int).toNat).toArray⟩ : ByteArray) = d := ba_ext (by simpa using h1.1)
  rw [this]; rfl
theorem HT_all (k n : Int) (z : List ByteArray) (h : okT1 k n) : HT (hdT k n ++ z) = some (k, n, z) := by
  obtain ⟨hk, h0, h9⟩ := h
  have hd := dec_isN (n := n.toNat) (by omega) ⟨(Lib.decDigits n.toNat).toArray⟩ (by simp)
  show HT (wrd k :: _ :: z) = _
  rw [HT_yes hk hd.1, hd.2, Int.toNat_of_nonneg h0]

/-- A head stands at the front, and no digit behind it. -/
def HdB (L : List UInt8) (k n : Int) (z : List UInt8) : Prop := okT1 k n ∧ L = hdB k n ++ z ∧ ∀ c y, z = c :: y → ¬ (48 ≤ c.toNat ∧ c.toNat ≤ 57)
theorem wrd_pre : ∀ i j : Fin 8, i.val ≠ 0 → j.val ≠ 0 → (wrd i.val).data.toList.isPrefixOf (wrd j.val).data.toList = true → i = j := by decide +kernel
theorem wrd_front {i j : Int} (hi : 1 ≤ i ∧ i ≤ 7) (hj : 1 ≤ j ∧ j ≤ 7) {L : List UInt8} (h1 : (wrd i).data.toList <+: L) (h2 : (wrd j).data.toList <+: L) : i = j := by
  have key : ∀ i j : Int, 1 ≤ i ∧ i ≤ 7 → 1 ≤ j ∧ j ≤ 7 → (wrd i).data.toList <+: (wrd j).data.toList → i = j := fun i j hi hj h => by
    have := wrd_pre ⟨i.toNat, by omega⟩ ⟨j.toNat, by omega⟩ (by show i.toNat ≠ 0; omega) (by show j.toNat ≠ 0; omega) (by
      show (wrd ((i.toNat : Nat) : Int)).data.toList.isPrefixOf (wrd ((j.toNat : Nat) : Int)).data.toList = true
      rw [Int.toNat_of_nonneg (by omega), Int.toNat_of_nonneg (by omega)]
      exact List.isPrefixOf_iff_prefix.2 h)
    have h2 : i.toNat = j.toNat := congrArg Fin.val this
    omega
  rcases Nat.le_total (wrd i).data.toList.length (wrd j).data.toList.length with h | h
  · exact key i j hi hj (List.prefix_of_prefix_length_le h1 h2 h)
  · exact (key j i hj hi (List.prefix_of_prefix_length_le h2 h1 h)).symm
theorem run_uniq : ∀ {D E z y : List UInt8}, D ++ z = E ++ y → (∀ b ∈ D, 48 ≤ b.toNat ∧ b.toNat ≤ 57) → (∀ b ∈ E, 48 ≤ b.toNat ∧ b.toNat ≤ 57) → (∀ c r, z = c :: r → ¬ (48 ≤ c.toNat ∧ c.toNat ≤ 57)) → (∀ c r, y = c :: r → ¬ (48 ≤ c.toNat ∧ c.toNat ≤ 57)) → D = E ∧ z = y
  | [], [], z, y, h, _, _, _, _ => ⟨rfl, h⟩
  | [], e :: E, z, y, h, _, hE, hz, _ => absurd (hE e (by simp)) (hz e (E ++ y) h)
  | d :: D, [], z, y, h, hD, _, _, hy => absurd (hD d (by simp)) (hy d (D ++ z) h.symm)
  | d :: D, e :: E, z, y, h, hD, hE, hz, hy => by
    simp only [List.cons_append, List.cons.injEq] at h
    obtain ⟨h1, h2⟩ := run_uniq h.2 (fun b hb => hD b (by simp [hb])) (fun b hb => hE b (by simp [hb])) hz hy
    exact ⟨by rw [h.1, h1], h2⟩
theorem HdB_uniq {L : List UInt8} {k n k' n' : Int} {z z' : List UInt8} (h : HdB L k n z) (h' : HdB L k' n' z') : k = k' ∧ n = n' ∧ z = z' := by
  obtain ⟨⟨hk, h0, h9⟩, e, hz⟩ := h
  obtain ⟨⟨hk', h0', h9'⟩, e', hz'⟩ := h'
  unfold hdB at e e'
  obtain rfl := wrd_front hk hk' (L := L) ⟨_, by rw [e, List.append_assoc]⟩ ⟨_, by rw [e', List.append_assoc]⟩
  rw [e, List.append_assoc, List.append_assoc, List.append_cancel_left_eq] at e'
  obtain ⟨h1, h2⟩ := run_uniq e' (dec_dig _) (dec_dig _) hz hz'
  have := congrArg vlL h1
  rw [dec_val, dec_val] at this
  exact ⟨rfl, by omega, h2⟩
open Classical in
noncomputable def HB (L : List UInt8) : Option (Int × Int × List UInt8) := if h : ∃ x : Int × Int × List UInt8, HdB L x.1 x.2.1 x.2.2 then some h.choose else none
theorem HB_yes {L : List UInt8} {k n : Int} {z : List UInt8} (h : HdB L k n z) : HB L = some (k, n, z) := by
  have hx : ∃ x : Int × Int × List UInt8, HdB L x.1 x.2.1 x.2.2 := ⟨(k, n, z), h⟩
  unfold HB
  rw [dif_pos hx]
  have := HdB_uniq hx.choose_spec h
  congr 1
  exact Prod.ext this.1 (Prod.ext this.2.1 this.2.2)
theorem HB_no {L : List UInt8} (h : ∀ k n z, ¬ HdB L k n z) : HB L = none := by
  unfold HB
  rw [dif_neg]
  rintro ⟨x, hx⟩
  exact h _ _ _ hx
theorem HB_parts {L : List UInt8} {k n : Int} {z : List UInt8} (h : HB L = some (k, n, z)) : HdB L k n z := by
  unfold HB at h
  split at h
  · rename_i hc
    have := hc.choose_spec
    rw [Option.some.inj h] at this
    exact this
  · cases h
theorem wrd_len {k : Int} (h : 1 ≤ k ∧ k ≤ 7) : 0 < (wrd k).data.toList.length := by
  have hk : k = 1 ∨ k = 2 ∨ k = 3 ∨ k = 4 ∨ k = 5 ∨ k = 6 ∨ k = 7 := by omega
  rcases hk with rfl | rfl | rfl | rfl | rfl | rfl | rfl <;> decide
theorem hdB_len (k n : Int) (h : okT1 k n) : 0 < (hdB k n).length := by
  have := wrd_len h.1
  unfold hdB; rw [List.length_append]; omega
theorem HB_less (L : List UInt8) (k n : Int) (z : List UInt8) (h : HB L = some (k, n, z)) : z.length < L.length := by
  obtain ⟨ho, rfl, -⟩ := HB_parts h
  have := hdB_len k n ho
  rw [List.length_append]; omega
theorem HB_sound (L : List UInt8) (k n : Int) (z : List UInt8) (h : HB L = some (k, n, z)) : L = hdB k n ++ z ∧ okT1 k n := ⟨(HB_parts h).2.1, (HB_parts h).1⟩
theorem HB_all (k n : Int) (z : List UInt8) (h : okT1 k n) (hz : z = [] ∨ ∃ c y, z = c :: y ∧ (c = 40 ∨ c = 41 ∨ c = 44)) : HB (hdB k n ++ z) = some (k, n, z) := by
  refine HB_yes ⟨h, rfl, fun c y e => ?_⟩
  rcases hz with rfl | ⟨c', y', rfl, hc⟩
  · cases e
  · simp only [List.cons.injEq] at e
    obtain ⟨rfl, -⟩ := e
    rcases hc with rfl | rfl | rfl <;> decide

/-- The texts. -/
def opB : ByteArray := ⟨#[40]⟩
def clB : ByteArray := ⟨#[41]⟩
def cmB : ByteArray := ⟨#[44]⟩
def txB (x : Fo) : List UInt8 := Gr.tx hdB 40 41 44 x
def txT (x : Fo) : List ByteArray := Gr.tx hdT opB clB cmB x
noncomputable def NB (L : List UInt8) := Gr.N HB 40 41 44 L
noncomputable def NT (ts : List ByteArray) := Gr.N HT opB clB cmB ts
noncomputable def SB (L : List UInt8) := Gr.S HB 40 41 44 L
noncomputable def ST (ts : List ByteArray) := Gr.S HT opB clB cmB ts
def flat (l : List ByteArray) : List UInt8 := l.flatMap fun t => t.data.toList
theorem flat_app (a b : List ByteArray) : flat (a ++ b) = flat a ++ flat b := by unfold flat; rw [List.flatMap_append]
theorem txT_flat : ∀ x : Fo, flat (txT x) = txB x := by
  intro x
  induction x with
  | nil => rfl
  | cons k n ks r ihk ihr =>
    unfold txT txB at ihk ihr ⊢
    rw [Gr.tx, Gr.tx, flat_app, flat_app]
    have h1 : flat (hdT k n) = hdB k n := by simp [flat, hdT, hdB]
    rw [h1]
    congr 1
    congr 1
    · by_cases h : ks.len = 0
      · rw [if_pos h, if_pos h]; rfl
      · rw [if_neg h, if_neg h]
        show flat ([opB] ++ (_ ++ [clB])) = _
        rw [flat_app, flat_app, ihk]
        rfl
    · by_cases h : r.len = 0
      · rw [if_pos h, if_pos h]; rfl
      · rw [if_neg h, if_neg h]
        show flat ([cmB] ++ _) = _
        rw [flat_app, ihr]
        rfl
theorem tx_cnt {σ : Type} {hd : Int → Int → List σ} {op cl cm : σ} (hL : ∀ k n, okT1 k n → 0 < (hd k n).length) : ∀ x : Fo, x.okT → x.cnt ≤ (Gr.tx hd op cl cm x).length := by
  intro x
  induction x with
  | nil => intro _; simp [Fo.cnt]
  | cons k n ks r ihk ihr =>
    intro h
    have h1 := hL k n h.1
    have h2 := ihk h.2.1
    have h3 := ihr h.2.2
    rw [Gr.tx, Fo.cnt, List.length_append, List.length_append]
    have h4 : ks.cnt ≤ (if ks.len = 0 then [] else op :: (Gr.tx hd op cl cm ks ++ [cl])).length := by
      by_cases hk : ks.len = 0
      · rw [Fo.len_zero hk]; simp [Fo.cnt]
      · rw [if_neg hk]; simp only [List.length_cons, List.length_append]; omega
    have h5 : r.cnt ≤ (if r.len = 0 then [] else cm :: Gr.tx hd op cl cm r).length := by
      by_cases hk : r.len = 0
      · rw [Fo.len_zero hk]; simp [Fo.cnt]
      · rw [if_neg hk]; simp only [List.length_cons]; omega
    omega
theorem NB_what (L : List UInt8) (k n : Int) (ks : Fo) : NB L = some ((k, n, ks), []) ↔ (Fo.cons k n ks .nil).okT ∧ L = txB (.cons k n ks .nil) := by
  constructor
  · intro h
    have := Gr.N_sound HB_sound HB_less h
    exact ⟨this.2, this.1⟩
  · rintro ⟨h, rfl⟩
    exact Gr.N_all (by decide) (by decide) (by decide) HB_all hdB_len HB_less h
theorem txB_inj {k n k' n' : Int} {ks ks' : Fo} (h : (Fo.cons k n ks .nil).okT) (h' : (Fo.cons k' n' ks' .nil).okT) (e : txB (.cons k n ks .nil) = txB (.cons k' n' ks' .nil)) : k = k' ∧ n = n' ∧ ks = ks' := by
  have h1 := (NB_what _ _ _ _).2 ⟨h, rfl⟩
  have h2 := (NB_what _ _ _ _).2 ⟨h', rfl⟩
  rw [e, h2] at h1
  simp only [Option.some.injEq, Prod.mk.injEq, and_true] at h1
  exact ⟨h1.1.symm, h1.2.1.symm, h1.2.2.symm⟩
theorem NT_sound {ts : List ByteArray} {k n : Int} {ks : Fo} (h : NT ts = some ((k, n, ks), [])) : (Fo.cons k n ks .nil).okT ∧ ts = txT (.cons k n ks .nil) := by
  have := Gr.N_sound HT_sound HT_less h
  exact ⟨this.2, this.1⟩
theorem NT_all {k n : Int} {ks : Fo} (h : (Fo.cons k n ks .nil).okT) : NT (txT (.cons k n ks .nil)) = some ((k, n, ks), []) :=
  Gr.N_all (by decide) (by decide) (by decide) (fun k n z h _ => HT_all k n z h) (fun k n _ => by simp [hdT]) HT_less h
end Go.Proofs.YtakhgjhnljbfiaaGreatDoor
