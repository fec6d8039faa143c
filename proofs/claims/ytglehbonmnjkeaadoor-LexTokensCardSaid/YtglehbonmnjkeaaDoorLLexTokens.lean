/- LexTokens: for every text: the tokens are the reference's, and the text again. -/
import Derived.Test.YtglehbonmnjkeaaDoorLexh
namespace Go.Proofs.YtglehbonmnjkeaaDoor
open Go.ChangeShapes Go.WideShapes Go.ChangeAt Go.RowKit
set_option linter.unusedVariables false
set_option linter.unusedSimpArgs false

/-- Tokens lie one behind the other. -/
def Ch : Nat → List (Int × Nat × Nat) → Nat → Prop
  | a, [], n => a = n
  | a, (_, x, y) :: r, n => x = a ∧ x ≤ y ∧ Ch y r n
theorem Ch.le : ∀ {l : List (Int × Nat × Nat)} {a n : Nat}, Ch a l n → a ≤ n
  | [], _, _, h => by unfold Ch at h; omega
  | (_, x, y) :: r, a, n, h => by
    unfold Ch at h
    have := Ch.le h.2.2
    omega
theorem Ch.snoc : ∀ {l : List (Int × Nat × Nat)} {a n : Nat} (k : Int) (m : Nat), Ch a l n → n ≤ m → Ch a (l ++ [(k, n, m)]) m
  | [], a, n, k, m, h, hm => by unfold Ch at h; subst h; exact ⟨rfl, hm, rfl⟩
  | (_, x, y) :: r, a, n, k, m, h, hm => ⟨h.1, h.2.1, Ch.snoc k m h.2.2 hm⟩
theorem Ch.init : ∀ {l : List (Int × Nat × Nat)} {a n b : Nat} {k : Int} {x : Nat}, Ch a (l ++ [(k, x, b)]) n → Ch a l x ∧ x ≤ b ∧ b = n
  | [], a, n, b, k, x, h => by
    simp only [List.nil_append] at h
    unfold Ch at h
    obtain ⟨h1, h2, h3⟩ := h
    unfold Ch at h3
    exact ⟨h1.symm, h2, h3⟩
  | (_, p, q) :: r, a, n, b, k, x, h => by
    have h' : p = a ∧ p ≤ q ∧ Ch q (r ++ [(k, x, b)]) n := h
    obtain ⟨h4, h5⟩ := Ch.init h'.2.2
    exact ⟨⟨h'.1, h'.2.1, h4⟩, h5⟩
theorem tk_ch {s : ByteArray} : ∀ {i : Nat} {l : List (Int × Nat × Nat)}, tk s i = some l → Ch 0 l i := by
  intro i
  induction i with
  | zero => intro l h; simp [tk] at h; subst h; rfl
  | succ i ih =>
    intro l h
    simp only [tk] at h
    cases hp : tk s i with
    | none => simp [hp] at h
    | some m =>
      simp only [hp] at h
      have hm := ih hp
      by_cases h0 : kd (bt s i) = 0
      · simp [h0] at h
      · simp only [h0, if_false] at h
        rcases List.eq_nil_or_concat m with hnil | ⟨t, ⟨k, a, b⟩, hcon⟩
        · subst hnil
          simp only [List.getLast?_nil, Option.some.injEq] at h
          subst h
          exact hm.snoc _ _ (Nat.le_succ _)
        · rw [List.concat_eq_append] at hcon
          subst hcon
          simp only [List.getLast?_concat] at h
          split at h
          · simp only [Option.some.injEq, List.dropLast_concat] at h
            subst h
            obtain ⟨h1, h2, h3⟩ := hm.init
            exact h1.snoc k (i + 1) (by omega)
          · simp only [Option.some.injEq] at h
            subst h
            exact hm.snoc _ _ (Nat.le_succ _)
theorem Ch.at : ∀ {l : List (Int × Nat × Nat)} {a n j : Nat} {k : Int} {x y : Nat}, Ch a (l.drop j) n → l[j]? = some (k, x, y) → x = a ∧ x ≤ y ∧ y ≤ n ∧ Ch y (l.drop (j + 1)) n := by
  intro l a n j k x y h hj
  have hlt : j < l.length := by
    rw [List.getElem?_eq_some_iff] at hj; exact hj.1
  rw [List.drop_eq_getElem_cons hlt] at h
  have e : l[j] = (k, x, y) := by rw [List.getElem?_eq_getElem hlt] at hj; exact Option.some.inj hj
  rw [e] at h
  have h' : x = a ∧ x ≤ y ∧ Ch y (l.drop (j + 1)) n := h
  exact ⟨h'.1, h'.2.1, h'.2.2.le, h'.2.2⟩
theorem ext_more (s : ByteArray) (a b : Nat) (h : a ≤ b) : s.extract 0 a ++ s.extract a b = s.extract 0 b := by
  apply ByteArray.ext
  apply Array.toList_inj.1
  rw [ByteArray.data_append, Array.toList_append, Lib.extract_data, Lib.extract_data, Lib.extract_data]
  simp only [List.drop_zero, Nat.sub_zero]
  rw [← List.take_append_drop a (s.data.toList.take b), List.take_take, Nat.min_eq_left h, List.drop_take]

/-- The cells of the j-th token in a row. -/
theorem tok_cells {w : World} {B : Nat} {E : TypeId} {v : Value} {l : List (Int × Nat × Nat)} {s : ByteArray} (ho : w.ownsRow B E 3 v l.length (encT s l)) {j : Nat} {k : Int} {a b : Nat} (hj : l[j]? = some (k, a, b)) :
    ∃ g c, v = .slice (some ⟨g, 0, none⟩) l.length c ∧ w.cell? ⟨g, j * 3, none⟩ = some (.int .i64 k) ∧ w.cell? ⟨g, j * 3 + 1, none⟩ = some (.string (s.extract a b)) ∧ w.cell? ⟨g, j * 3 + 2, none⟩ = some (.int .i64 a) := by
  have hlt : j < l.length := by
    rw [List.getElem?_eq_some_iff] at hj; exact hj.1
  have hc := encT_at s l hj
  rw [Nat.mul_comm] at hc
  rcases own_form ho with ⟨-, h, -⟩ | ⟨g, c, hv, -, -, -, -, hcell⟩
  · omega
  · refine ⟨g, c, hv, ?_, ?_, ?_⟩
    · obtain ⟨u, h1, h2, _⟩ := hcell (j * 3) (by omega)
      rw [hc.1] at h1; rw [h2]; exact h1.symm
    · obtain ⟨u, h1, h2, _⟩ := hcell (j * 3 + 1) (by omega)
      rw [hc.2.1] at h1; rw [h2]; exact h1.symm
    · obtain ⟨u, h1, h2, _⟩ := hcell (j * 3 + 2) (by omega)
      rw [hc.2.2] at h1; rw [h2]; exact h1.symm

namespace lexTokens
set_option maxRecDepth 100000 in
set_option maxHeartbeats 8000000 in
theorem walk (W : World) (a0 : ByteArray) (w0 : a0.size ≤ maxLen) (hm : ∃ m, W.cell? ⟨0, 0, none⟩ = some (.int .i64 m)) :
    Calls Tryd.prog 5 #[.string a0] W fun e W' => e = .returned (.bool true) ∧ Below W.heap.size W W' := by
  have LV := Lib.hid (fun w (b : Below W.heap.size W w) => live22 w (hm_below hm b))
  by_cases hs : a0.size > 300
  · have d1 : decide ((a0.size : Int) > 300) = true := decide_eq_true (by omega)
    have d1' : decide (300 < a0.size) = true := decide_eq_true hs
    go_enter Tryd.func5, Tryd.ntmps5
    go_wp2_with fail
    refine (LV.out _ (Below.refl _ _)).mono ?_
    rintro e w1 ⟨rfl, b1⟩
    go_wp2_with fail
    go_ret
    exact ⟨rfl, b1⟩
  · have d1 : decide ((a0.size : Int) > 300) = false := decide_eq_false (by omega)
    have d1' : decide (300 < a0.size) = false := decide_eq_false hs
    have F := Lib.hid (lex_tokens a0 (by omega) W)
    have G := Lib.hid (fun w => ref_tokens a0 (by omega) w)
    go_enter Tryd.func5, Tryd.ntmps5
    go_wp2_with fail
    refine F.out.mono ?_
    rintro e w1 ⟨b1, ⟨h1, rfl⟩ | ⟨l, v, h1, rfl, ho1⟩⟩
    · clear F
      go_wp2_with fail
      refine (G.out _).mono ?_
      rintro e w2 ⟨b2, ⟨h2, rfl⟩ | ⟨l2, v2, h2, rfl, ho2⟩⟩
      · have hB := b1.trans (b2.mono b1.size)
        clear G
        go_wp2_with fail
        refine (LV.out _ hB).mono ?_
        rintro e w3 ⟨rfl, b3⟩
        have hB3 := hB.trans (b3.mono hB.size)
        go_wp2_with fail
        go_ret
        exact ⟨rfl, hB3⟩
      · rw [h1] at h2; cases h2
    · clear F
      have H1 := Lib.hid h1
      have O1 := Lib.hid ho1
      obtain ⟨a1, c1, rfl⟩ : ∃ a c, v = .slice a l.length c := by
        rcases own_form ho1 with ⟨h, h', -⟩ | ⟨g, c, h, _⟩
        · exact ⟨none, 0, by rw [h, h']⟩
        · exact ⟨_, _, h⟩
      clear h1 ho1
      go_wp2_with fail
      refine (G.out _).mono ?_
      rintro e w2 ⟨b2, ⟨h2, rfl⟩ | ⟨l2, v2, h2, rfl, ho2⟩⟩
      · rw [H1.out] at h2; cases h2
      rw [H1.out] at h2
      obtain rfl := Option.some.inj h2
      have O2 := Lib.hid ho2
      obtain ⟨a2, c2, rfl⟩ : ∃ a c, v2 = .slice a l.length c := by
        rcases own_form ho2 with ⟨h, h', -⟩ | ⟨g, c, h, _⟩
        · exact ⟨none, 0, by rw [h, h']⟩
        · exact ⟨_, _, h⟩
      have O1 := Lib.hid (own_below O1.out (b2.mono (Nat.le_refl _)))
      have hB := b1.trans (b2.mono b1.size)
      have hll := (tk_len H1.out).1
      have HC := Lib.hid (tk_ch H1.out)
      clear G h2 ho2 b1 b2 H1
      go_wp2_with fail
      go_loopw [7, 8] (fun x y wi => ∃ (j a : Nat) (tb : ByteArray), x = .string tb ∧ y = .int .i64 j ∧ j ≤ l.length ∧ a ≤ a0.size ∧ Hid (tb = a0.extract 0 a ∧ Ch a (l.drop j) a0.size) ∧ Hid (wi.ownsRow (W.heap.size + 1) 46 3 (.slice a1 l.length c1) l.length (encT a0 l)) ∧ Hid (wi.ownsRow w1.heap.size 47 3 (.slice a2 l.length c2) l.length (encT a0 l)) ∧ Below W.heap.size W wi) (fun _ y _ => l.length - (intOf y).toNat)
      case atStart => exact ⟨0, 0, _, rfl, rfl, by omega, by omega, Lib.hid ⟨by simp; rfl, HC.out⟩, O1, O2, hB⟩
      clear O1 O2 hB
      case round =>
        obtain ⟨j, a, tb, rfl, rfl, hj, ha, HT, O1, O2, hB⟩ := hrel
        by_cases hlt : j < l.length
        · have d2 : decide ((j : Int) < (l.length : Int)) = true := decide_eq_true (by omega)
          have d2' : decide (j < l.length) = true := decide_eq_true hlt
          obtain ⟨⟨k, x, y⟩, hjt⟩ : ∃ t, l[j]? = some t := ⟨l[j], by simp [hlt]⟩
          obtain ⟨g1, q1, v1, p0, p1, p2⟩ := tok_cells O1.out hjt
          obtain ⟨g2, q2, v2, r0, r1, r2⟩ := tok_cells O2.out hjt
          obtain ⟨hxa, hxy, hyn, hch⟩ := HT.out.2.at hjt
          have hnew : Hid (tb ++ a0.extract x y = a0.extract 0 y ∧ Ch y (l.drop (j + 1)) a0.size) := Lib.hid ⟨by rw [HT.out.1, ← hxa]; exact ext_more a0 x y hxy, hch⟩
          have htl : tb.size + (a0.extract x y).size ≤ 9223372036854775807 := by
            rw [HT.out.1, ByteArray.size_extract, ByteArray.size_extract]; omega
          obtain ⟨sub, hsub⟩ : ∃ sub, a0.extract x y = sub := ⟨_, rfl⟩
          rw [hsub] at p1 r1 hnew htl
          have hadd : ∀ wx : World, (Op.stringOp .add tb sub).run Tryd.prog wx = .ok (.string (tb ++ sub)) wx := fun wx => run_string_add_sum wx _ _ htl
          obtain ⟨tn, htn⟩ : ∃ tn, tb ++ sub = tn := ⟨_, rfl⟩
          rw [htn] at hnew hadd
          injection v1 with v1 _ v1c
          injection v2 with v2 _ v2c
          subst v1 v2 v1c v2c
          clear HT hch hsub hjt htn htl
          go_wp2_with fail
          go_region
          go_wp2_with fail
          go_roundw
          case rel => exact ⟨j + 1, y, _, rfl, rfl, by omega, hyn, hnew, O1, O2, hB.drew⟩
          case measure => (first | (simp [intOf]; done) | (simp [intOf]; omega) | (simp only [intOf]; omega))
        · obtain rfl : j = l.length := by omega
          have d2 : decide ((l.length : Int) < (l.length : Int)) = false := decide_eq_false (by omega)
          have hfin : tb = a0 := by
            have h := HT.out.2
            rw [List.drop_length] at h
            have h' : a = a0.size := h
            rw [HT.out.1, h', Lib.extract_eq]
            rw [List.drop_zero, Nat.sub_zero, Lib.size_eq, List.take_length, Lib.mk_data]
          subst hfin
          clear HT
          go_wp2_with fail
          refine (LV.out _ hB).mono ?_
          rintro e w3 ⟨rfl, b3⟩
          have hB3 := hB.trans (b3.mono hB.size)
          go_wp2_with fail
          go_ret
          exact ⟨rfl, hB3⟩
end lexTokens
end Go.Proofs.YtglehbonmnjkeaaDoor
