/- LexLines: for every text and place: its line, its words, and the words' text again. -/
import Derived.Test.YtglehbonmnjkeaaDoorLexi
namespace Go.Proofs.YtglehbonmnjkeaaDoor
open Go.ChangeShapes Go.WideShapes Go.ChangeAt Go.RowKit
set_option linter.unusedVariables false
set_option linter.unusedSimpArgs false

theorem str_cell {w : World} {B : Nat} {E : TypeId} {v : Value} {l : List (List UInt8)} (ho : w.ownsRow B E 1 v l.length (encS l)) {j : Nat} {p : List UInt8} (hj : l[j]? = some p) :
    ∃ g c, v = .slice (some ⟨g, 0, none⟩) l.length c ∧ w.cell? ⟨g, j, none⟩ = some (.string ⟨p.toArray⟩) := by
  have hlt : j < l.length := by
    rw [List.getElem?_eq_some_iff] at hj; exact hj.1
  rcases own_form ho with ⟨-, h, -⟩ | ⟨g, c, hv, -, -, -, -, hcell⟩
  · omega
  · obtain ⟨u, h1, h2, _⟩ := hcell j (by omega)
    rw [encS_at, hj] at h1
    exact ⟨g, c, hv, by rw [h2]; exact h1.symm⟩
theorem own_slice {w : World} {B : Nat} {E : TypeId} {sz n : Nat} {v : Value} {xs : List Value} (ho : w.ownsRow B E sz v n xs) : ∃ a c, v = .slice a n c := by
  rcases own_form ho with ⟨h, h', -⟩ | ⟨g, c, h, _⟩
  · exact ⟨none, 0, by rw [h, h']⟩
  · exact ⟨_, _, h⟩

set_option maxRecDepth 100000 in
theorem ref_same (l : List (List UInt8)) (hl : l.length ≤ 901) (w : World) {B1 B2 : Nat} {v1 v2 : Value} (h1 : w.ownsRow B1 9 1 v1 l.length (encS l)) (h2 : w.ownsRow B2 9 1 v2 l.length (encS l)) :
    Calls Tryd.prog 11 #[v1, v2] w fun e w' => e = .returned (.bool true) ∧ Below w.heap.size w w' := by
  obtain ⟨a1, c1, rfl⟩ := own_slice h1
  obtain ⟨a2, c2, rfl⟩ := own_slice h2
  have O1 := Lib.hid h1
  have O2 := Lib.hid h2
  clear h1 h2
  go_enter Tryd.func11, Tryd.ntmps11
  go_wp2
  go_loopw [5] (fun x wi => ∃ i : Nat, x = .int .i64 i ∧ i ≤ l.length ∧ Hid (wi.ownsRow B1 9 1 (.slice a1 l.length c1) l.length (encS l)) ∧ Hid (wi.ownsRow B2 9 1 (.slice a2 l.length c2) l.length (encS l)) ∧ Below w.heap.size w wi) (fun x _ => l.length - (intOf x).toNat)
  case atStart => exact ⟨0, rfl, by omega, O1, O2, Below.refl _ _⟩
  clear O1 O2
  case round =>
    obtain ⟨i, rfl, hi, O1, O2, hB⟩ := hrel
    by_cases hlt : i < l.length
    · have d2 : decide ((i : Int) < (l.length : Int)) = true := decide_eq_true (by omega)
      have d2' : decide (i < l.length) = true := decide_eq_true hlt
      obtain ⟨p, hp⟩ : ∃ p, l[i]? = some p := ⟨l[i], by simp [hlt]⟩
      obtain ⟨g1, q1, v1, p1⟩ := str_cell O1.out hp
      obtain ⟨g2, q2, v2, p2⟩ := str_cell O2.out hp
      injection v1 with v1 _ v1c
      injection v2 with v2 _ v2c
      subst v1 v2 v1c v2c
      obtain ⟨sp, hsp⟩ : ∃ sp : ByteArray, sp = ⟨p.toArray⟩ := ⟨_, rfl⟩
      rw [← hsp] at p1 p2
      clear hp hsp
      go_wp2_with fail
      go_region
      go_wp2_with fail
      go_roundw
      case rel => exact ⟨i + 1, rfl, by omega, O1, O2, hB.drew⟩
      case measure => (first | (simp [intOf]; done) | (simp [intOf]; omega) | (simp only [intOf]; omega))
    · obtain rfl : i = l.length := by omega
      have d2 : decide ((l.length : Int) < (l.length : Int)) = false := decide_eq_false (by omega)
      go_wp2
      go_ret
      exact ⟨rfl, hB⟩

/-- Pieces with blanks between, behind the first. -/
def tlw : List (List UInt8) → List UInt8
  | [] => []
  | x :: r => 32 :: x ++ tlw r
def fullw : List (List UInt8) → List UInt8
  | [] => []
  | x :: r => x ++ tlw r
theorem full_splA (l : List UInt8) : ∀ cur, fullw (splA cur l) = cur ++ l := by
  induction l with
  | nil => intro cur; simp [splA, fullw, tlw]
  | cons b l ih =>
    intro cur
    unfold splA
    split
    · rename_i h
      subst h
      have h2 := ih []
      cases hs : splA [] l with
      | nil => have := splA_count l []; rw [hs] at this; simp at this
      | cons x r =>
        rw [hs] at h2
        simp only [fullw, tlw, List.nil_append] at h2 ⊢
        rw [← h2]; simp
    · rw [ih]; simp
theorem wds_full {l : List UInt8} {P : List (List UInt8)} (h : wds l = some P) : fullw P = l := by
  unfold wds at h
  split at h
  · rename_i h0; simp at h; subst h; rw [h0]; rfl
  · split at h
    · simp at h; subst h; rw [full_splA]; rfl
    · cases h
theorem wds_len {l : List UInt8} {P : List (List UInt8)} (h : wds l = some P) : P.length ≤ l.length + 1 := by
  unfold wds at h
  split at h
  · simp at h; subst h; simp
  · split at h
    · simp at h; subst h; rw [splA_count]; have := List.count_le_length (a := (32 : UInt8)) (l := l); omega
    · cases h
/-- What is joined already. -/
def Jn (s : List UInt8) (P : List (List UInt8)) (j : Nat) (t : List UInt8) : Prop := (j = 0 ∧ t = [] ∧ fullw P = s) ∨ (0 < j ∧ t ++ tlw (P.drop j) = s)
theorem Jn.fin {s : List UInt8} {P : List (List UInt8)} {t : List UInt8} (h : Jn s P P.length t) : t = s := by
  rcases h with ⟨h1, h2, h3⟩ | ⟨h1, h2⟩
  · rw [List.length_eq_zero_iff] at h1
    subst h1; rw [h2, ← h3]; rfl
  · simpa [tlw] using h2
theorem Jn.first {s : List UInt8} {P : List (List UInt8)} {t p : List UInt8} (h : Jn s P 0 t) (hp : P[0]? = some p) : Jn s P 1 (t ++ p) ∧ t = [] ∧ p.length ≤ s.length := by
  rcases h with ⟨_, h2, h3⟩ | ⟨h1, _⟩
  · cases P with
    | nil => simp at hp
    | cons x r =>
      simp at hp; subst hp
      have h3' : x ++ tlw r = s := h3
      refine ⟨.inr ⟨by omega, by rw [h2]; simpa using h3'⟩, h2, ?_⟩
      rw [← h3']; simp
  · omega
theorem Jn.next {s : List UInt8} {P : List (List UInt8)} {t p : List UInt8} {j : Nat} (h : Jn s P j t) (h0 : 0 < j) (hp : P[j]? = some p) : Jn s P (j + 1) ((t ++ [32]) ++ p) ∧ t.length + 1 + p.length ≤ s.length := by
  rcases h with ⟨h1, _, _⟩ | ⟨_, h2⟩
  · omega
  · have hlt : j < P.length := by
      rw [List.getElem?_eq_some_iff] at hp; exact hp.1
    rw [List.drop_eq_getElem_cons hlt] at h2
    have e : P[j] = p := by rw [List.getElem?_eq_getElem hlt] at hp; exact Option.some.inj hp
    rw [e] at h2
    have h3 : t ++ (32 :: p ++ tlw (P.drop (j + 1))) = s := h2
    refine ⟨.inr ⟨by omega, by rw [← h3]; simp⟩, ?_⟩
    rw [← h3]; simp; omega
theorem ba_inj {x y : ByteArray} (h : x.data.toList = y.data.toList) : x = y := by
  apply ByteArray.ext
  exact Array.toList_inj.1 h

theorem line_both (s : ByteArray) (hs : s.size ≤ 900) (a : Int) (wa : -9223372036854775808 ≤ a ∧ a ≤ 9223372036854775807) (W : World) (hm : ∃ m, W.cell? ⟨0, 0, none⟩ = some (.int .i64 m)) :
    ∃ (l : ByteArray) (n : Int) (ok : Bool), Calls Tryd.prog 7 #[.string s, .int .i64 a] W (fun e w' => Below W.heap.size W w' ∧ e = .returned (.tuple #[.string l, .int .i64 n, .bool ok])) ∧ ∀ w, Calls Tryd.prog 8 #[.string s, .int .i64 a] w (fun e w' => w = w' ∧ e = .returned (.tuple #[.string l, .int .i64 n, .bool ok])) := by
  by_cases hx : ∃ i, Fst s a i
  · obtain ⟨i, hi⟩ := hx
    refine ⟨s.extract a.toNat i, (i : Int) + 1, true, (lex_line s hs a wa W hm).mono ?_, fun w => (ref_line s hs a wa w).mono ?_⟩
    · rintro e w' ⟨h, ⟨h1, -⟩ | ⟨j, h1, h2⟩⟩
      · exact absurd h1 (fun h1 => hi.not h1)
      · rw [hi.uniq h1]; exact ⟨h, h2⟩
    · rintro e w' ⟨h, ⟨h1, -⟩ | ⟨j, h1, h2⟩⟩
      · exact absurd h1 (fun h1 => hi.not h1)
      · rw [hi.uniq h1]; exact ⟨h, h2⟩
  · refine ⟨⟨#[]⟩, 0, false, (lex_line s hs a wa W hm).mono ?_, fun w => (ref_line s hs a wa w).mono ?_⟩
    · rintro e w' ⟨h, ⟨h1, h2⟩ | ⟨j, h1, h2⟩⟩
      · exact ⟨h, h2⟩
      · exact absurd ⟨j, h1⟩ hx
    · rintro e w' ⟨h, ⟨h1, h2⟩ | ⟨j, h1, h2⟩⟩
      · exact ⟨h, h2⟩
      · exact absurd ⟨j, h1⟩ hx
namespace lexLines
set_option maxRecDepth 100000 in
set_option maxHeartbeats 8000000 in
theorem walk (W : World) (a0 : ByteArray) (w0 : a0.size ≤ maxLen) (a1 : Int) (w1 : -9223372036854775808 ≤ a1 ∧ a1 ≤ 9223372036854775807) (hm : ∃ m, W.cell? ⟨0, 0, none⟩ = some (.int .i64 m)) :
    Calls Tryd.prog 3 #[.string a0, .int .i64 a1] W fun e W' => e = .returned (.bool true) ∧ Below W.heap.size W W' := by
  have LV := Lib.hid (fun w (b : Below W.heap.size W w) => live22 w (hm_below hm b))
  by_cases hs : a0.size > 300
  · have d1 : decide ((a0.size : Int) > 300) = true := decide_eq_true (by omega)
    have d1' : decide (300 < a0.size) = true := decide_eq_true hs
    go_enter Tryd.func3, Tryd.ntmps3
    go_wp2_with fail
    refine (LV.out _ (Below.refl _ _)).mono ?_
    rintro e w1 ⟨rfl, b1⟩
    go_wp2_with fail
    go_ret
    exact ⟨rfl, b1⟩
  · have d1 : decide ((a0.size : Int) > 300) = false := decide_eq_false (by omega)
    have d1' : decide (300 < a0.size) = false := decide_eq_false hs
    have LN := Lib.hid (line_both a0 (by omega) a1 w1 W hm)
    have F := Lib.hid (fun w (b : Below W.heap.size W w) => lex_words a0 (by omega) w (hm_below hm b))
    have G := Lib.hid (fun w => ref_words a0 (by omega) w)
    obtain ⟨ln, nx, ok, L1, L2⟩ := LN.out
    have L1 := Lib.hid L1
    have L2 := Lib.hid L2
    clear LN
    go_enter Tryd.func3, Tryd.ntmps3
    go_wp2_with fail
    refine L1.out.mono ?_
    rintro e w1 ⟨b1, rfl⟩
    go_wp2_with fail
    refine (L2.out _).mono ?_
    rintro e w2 ⟨rfl, rfl⟩
    clear L1 L2
    go_wp2_with fail
    refine (F.out _ b1).mono ?_
    rintro e w2 ⟨b2, ⟨h1, rfl⟩ | ⟨l, v, h1, rfl, ho1⟩⟩
    · clear F
      go_wp2_with fail
      refine (G.out _).mono ?_
      rintro e w3 ⟨b3, ⟨h2, rfl⟩ | ⟨l2, v2, h2, rfl, ho2⟩⟩
      · have hB := (b1.trans (b2.mono b1.size)).trans (b3.mono (Nat.le_trans b1.size b2.size))
        clear G
        go_wp2_with fail
        refine (LV.out _ hB).mono ?_
        rintro e w4 ⟨rfl, b4⟩
        have hB3 := hB.trans (b4.mono hB.size)
        go_wp2_with fail
        go_ret
        exact ⟨rfl, hB3⟩
      · rw [h1] at h2; cases h2
    · clear F
      have H1 := Lib.hid h1
      have O1 := Lib.hid ho1
      obtain ⟨a1, c1, rfl⟩ := own_slice ho1
      clear h1 ho1
      go_wp2_with fail
      refine (G.out _).mono ?_
      rintro e w3 ⟨b3, ⟨h2, rfl⟩ | ⟨l2, v2, h2, rfl, ho2⟩⟩
      · rw [H1.out] at h2; cases h2
      rw [H1.out] at h2
      obtain rfl := Option.some.inj h2
      have O2 := Lib.hid ho2
      obtain ⟨a2, c2, rfl⟩ := own_slice ho2
      have O1 := Lib.hid (own_below O1.out (b3.mono (Nat.le_refl _)))
      have hB := (b1.trans (b2.mono b1.size)).trans (b3.mono (Nat.le_trans b1.size b2.size))
      have hll : l.length ≤ 301 := by
        have := wds_len H1.out
        have := Lib.size_eq a0; omega
      have HF : Hid (fullw l = a0.data.toList) := Lib.hid (wds_full H1.out)
      clear G h2 ho2 b1 b2 b3 H1
      go_wp2_with fail
      go_loopw [15, 16] (fun x y wi => ∃ (j : Nat) (tb : ByteArray), x = .string tb ∧ y = .int .i64 j ∧ j ≤ l.length ∧ Hid (Jn a0.data.toList l j tb.data.toList) ∧ w3 = wi) (fun _ y _ => l.length - (intOf y).toNat)
      case atStart => exact ⟨0, _, rfl, rfl, by omega, Lib.hid (.inl ⟨rfl, rfl, HF.out⟩), rfl⟩
      case round =>
        obtain ⟨j, tb, rfl, rfl, hj, HT, rfl⟩ := hrel
        by_cases hlt : j < l.length
        · have d2 : decide ((j : Int) < (l.length : Int)) = true := decide_eq_true (by omega)
          have d2' : decide (j < l.length) = true := decide_eq_true hlt
          obtain ⟨p, hp⟩ : ∃ p, l[j]? = some p := ⟨l[j], by simp [hlt]⟩
          obtain ⟨g1, q1, v1, p1⟩ := str_cell O1.out hp
          injection v1 with v1 _ v1c
          subst v1 v1c
          obtain ⟨sp, hsp⟩ : ∃ sp : ByteArray, sp = ⟨p.toArray⟩ := ⟨_, rfl⟩
          have hspd : sp.data.toList = p := by rw [hsp]
          rw [← hsp] at p1
          have hs0 := Lib.size_eq a0
          have hs1 := Lib.size_eq tb
          have hs2 := Lib.size_eq sp
          rw [hspd] at hs2
          by_cases h0 : j = 0
          · subst h0
            obtain ⟨hn1, hn2, hn3⟩ := HT.out.first hp
            have hadd : ∀ wx : World, (Op.stringOp .add tb sp).run Tryd.prog wx = .ok (.string (tb ++ sp)) wx := fun wx => run_string_add_sum wx _ _ (by rw [hn2, List.length_nil] at hs1; omega)
            obtain ⟨tn, htn⟩ : ∃ tn, tb ++ sp = tn := ⟨_, rfl⟩
            have HN : Hid (Jn a0.data.toList l 1 tn.data.toList) := Lib.hid (by rw [← htn, ByteArray.data_append, Array.toList_append, hspd]; exact hn1)
            rw [htn] at hadd
            clear HT hsp hspd hs0 hs1 hs2 hp htn hn1 hn2 hn3
            go_wp2_with fail
            go_roundw
            case rel => exact ⟨1, _, rfl, rfl, by omega, HN, by first | rfl | trivial⟩
            case measure => (first | (simp [intOf]; done) | (simp [intOf]; omega) | (simp only [intOf]; omega))
          · have d3 : decide ((j : Int) > 0) = true := decide_eq_true (by omega)
            have d3' : decide (0 < j) = true := decide_eq_true (by omega)
            obtain ⟨hn1, hn3⟩ := HT.out.next (by omega) hp
            have hadd1 : ∀ wx : World, (Op.stringOp .add tb ⟨#[32]⟩).run Tryd.prog wx = .ok (.string (tb ++ ⟨#[32]⟩)) wx := fun wx => run_string_add_sum wx _ _ (by
              show tb.size + 1 ≤ _
              omega)
            obtain ⟨t1, ht1⟩ : ∃ t1, tb ++ (⟨#[32]⟩ : ByteArray) = t1 := ⟨_, rfl⟩
            have ht1d : t1.data.toList = tb.data.toList ++ [32] := by rw [← ht1, ByteArray.data_append, Array.toList_append]
            have ht1s : t1.size = tb.size + 1 := by rw [Lib.size_eq, ht1d, hs1]; simp
            rw [ht1] at hadd1
            have hadd : ∀ wx : World, (Op.stringOp .add t1 sp).run Tryd.prog wx = .ok (.string (t1 ++ sp)) wx := fun wx => run_string_add_sum wx _ _ (by omega)
            obtain ⟨tn, htn⟩ : ∃ tn, t1 ++ sp = tn := ⟨_, rfl⟩
            have HN : Hid (Jn a0.data.toList l (j + 1) tn.data.toList) := Lib.hid (by rw [← htn, ByteArray.data_append, Array.toList_append, hspd, ht1d]; exact hn1)
            rw [htn] at hadd
            clear HT hsp hspd hs0 hs1 hs2 hp htn hn1 hn3 ht1 ht1d ht1s
            go_wp2_with fail
            go_roundw
            case rel => exact ⟨j + 1, _, rfl, rfl, by omega, HN, by first | rfl | trivial⟩
            case measure => (first | (simp [intOf]; done) | (simp [intOf]; omega) | (simp only [intOf]; omega))
        · obtain rfl : j = l.length := by omega
          have d2 : decide ((l.length : Int) < (l.length : Int)) = false := decide_eq_false (by omega)
          obtain rfl : tb = a0 := ba_inj HT.out.fin
          have S := Lib.hid (ref_same l (by omega) w3 O1.out O2.out)
          clear HT O1 O2
          go_wp2_with fail
          refine S.out.mono ?_
          rintro e w4 ⟨rfl, b4⟩
          have hB4 := hB.trans (b4.mono hB.size)
          clear S
          go_wp2_with fail
          refine (LV.out _ hB4).mono ?_
          rintro e w5 ⟨rfl, b5⟩
          have hB5 := hB4.trans (b5.mono hB4.size)
          go_wp2_with fail
          go_ret
          exact ⟨rfl, hB5⟩
end lexLines
end Go.Proofs.YtglehbonmnjkeaaDoor
