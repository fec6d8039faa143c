/- Put together by program (merge2.py): Syn Syp. -/
import Derived.Test.YtafmiilkdhdngaaGreatDoorR3
/- symMerge's cut in numbers. -/
namespace Go.Proofs.YtafmiilkdhdngaaGreatDoor
open Go.ChangeShapes Go.WideShapes Go.ChangeAt Go.RowKit
set_option linter.unusedVariables false
set_option linter.unusedSimpArgs false
theorem up_get {l : List E5} (h : Srt.Up elt l) {i j : Nat} {x y : E5} (hij : i ≤ j) (hx : l[i]? = some x) (hy : l[j]? = some y) : elt y x = false := by
  obtain ⟨hi, rfl⟩ := List.getElem?_eq_some_iff.1 hx
  obtain ⟨hj, rfl⟩ := List.getElem?_eq_some_iff.1 hy
  rcases Nat.lt_or_eq_of_le hij with hlt | rfl
  · exact List.pairwise_iff_getElem.1 h i j hi hj hlt
  · exact elt_ord.irr _
theorem take_get {l : List E5} {u : Nat} {x : E5} (h : x ∈ l.take u) : ∃ i, i < u ∧ l[i]? = some x := by
  obtain ⟨i, hi, rfl⟩ := List.getElem_of_mem h
  rw [List.length_take] at hi
  exact ⟨i, by omega, by rw [List.getElem_take, List.getElem?_eq_getElem (by omega)]⟩
theorem drop_get {l : List E5} {u : Nat} {x : E5} (h : x ∈ l.drop u) : ∃ i, u ≤ i ∧ l[i]? = some x := by
  obtain ⟨i, hi, rfl⟩ := List.getElem_of_mem h
  rw [List.length_drop] at hi
  exact ⟨u + i, by omega, by rw [List.getElem_drop, List.getElem?_eq_getElem (by omega)]⟩
theorem cutA {P Q : List E5} (h1 : Srt.Up elt P) (h2 : Srt.Up elt Q) {u v : Nat} (hv : v ≤ Q.length) (h : u = 0 ∨ v = Q.length ∨ ∃ x y, P[u - 1]? = some x ∧ Q[v]? = some y ∧ elt y x = false) : ∀ x ∈ P.take u, ∀ y ∈ Q.drop v, elt y x = false := fun x hx y hy => by
  obtain ⟨i, hi, hx'⟩ := take_get hx
  obtain ⟨j, hj, hy'⟩ := drop_get hy
  rcases h with rfl | rfl | ⟨x1, y1, e1, e2, e3⟩
  · omega
  · have := (List.getElem?_eq_some_iff.1 hy').1; omega
  · exact elt_ord.neg (elt_ord.neg (up_get h1 (by omega) hx' e1) e3) (up_get h2 hj e2 hy')
theorem cutB {P Q : List E5} (h1 : Srt.Up elt P) (h2 : Srt.Up elt Q) {u v : Nat} (h : P.length ≤ u ∨ v = 0 ∨ ∃ x y, P[u]? = some x ∧ Q[v - 1]? = some y ∧ elt y x = true) : ∀ x ∈ P.drop u, ∀ y ∈ Q.take v, elt y x = true := fun x hx y hy => by
  obtain ⟨i, hi, hx'⟩ := drop_get hx
  obtain ⟨j, hj, hy'⟩ := take_get hy
  rcases h with h | rfl | ⟨x1, y1, e1, e2, e3⟩
  · have := (List.getElem?_eq_some_iff.1 hx').1; omega
  · omega
  · exact elt_ord.lt_le (elt_ord.le_lt (up_get h2 (by omega) hy' e2) e3) (up_get h1 hi e1 hx')
/-- The search for the cut: every place left of s stays, every place from r on goes. -/
structure Cut (P Q : List E5) (a m p s0 r0 s r : Nat) : Prop where
  b1 : s0 ≤ s
  b2 : s ≤ r
  b3 : r ≤ r0
  l : ∀ c x y, s0 ≤ c → c < s → P[c - a]? = some x → Q[p - c - m]? = some y → elt y x = false
  g : ∀ c x y, r ≤ c → c < r0 → P[c - a]? = some x → Q[p - c - m]? = some y → elt y x = true
/-- The numbers of a call: lengths i and j, mid, the bounds of the search. -/
structure Nums (a m b i j mid p s0 r0 : Nat) : Prop where
  em : a + i = m
  eb : m + j = b
  emid : (a + b) / 2 = mid
  ep : mid + m = p + 1
  i2 : 2 ≤ i
  j2 : 2 ≤ j
  lo : s0 = if mid < m then p + 1 - b else a
  hi : r0 = if mid < m then mid else m
theorem Nums.bd {a m b i j mid p s0 r0 : Nat} (h : Nums a m b i j mid p s0 r0) : a ≤ s0 ∧ s0 ≤ r0 ∧ r0 ≤ m ∧ r0 ≤ mid ∧ p + 1 - s0 ≤ b ∧ m ≤ p + 1 - r0 ∧ a < mid ∧ mid < b := by
  obtain ⟨h1, h2, h3, h4, h5, h6, h7, h8⟩ := h
  by_cases hm : mid < m
  · rw [if_pos hm] at h7 h8; omega
  · rw [if_neg hm] at h7 h8; omega
theorem Cut.left {P Q : List E5} {a m b mid p s0 r0 s r c : Nat} {x y : E5} (h : Cut P Q a m p s0 r0 s r) (h1 : Srt.Up elt P) (h2 : Srt.Up elt Q) (hc : s ≤ c ∧ c < r) (ha : a ≤ s0) (hr : r0 ≤ m ∧ m + r0 ≤ p + 1) (hx : P[c - a]? = some x) (hy : Q[p - c - m]? = some y) (he : elt y x = false) : Cut P Q a m p s0 r0 (c + 1) r :=
  ⟨by have := h.b1; omega, by omega, h.b3, fun d u v d1 d2 hu hv => elt_ord.neg (elt_ord.neg (up_get h1 (by omega) hu hx) he) (up_get h2 (by omega) hy hv), h.g⟩
theorem Cut.right {P Q : List E5} {a m b mid p s0 r0 s r c : Nat} {x y : E5} (h : Cut P Q a m p s0 r0 s r) (h1 : Srt.Up elt P) (h2 : Srt.Up elt Q) (hc : s ≤ c ∧ c < r) (ha : a ≤ s0) (hx : P[c - a]? = some x) (hy : Q[p - c - m]? = some y) (he : elt y x = true) : Cut P Q a m p s0 r0 s c :=
  ⟨h.b1, hc.1, by have := h.b3; omega, h.l, fun d u v d1 d2 hu hv => elt_ord.lt_le (elt_ord.le_lt (up_get h2 (by omega) hv hy) he) (up_get h1 (by omega) hx hu)⟩
/-- The cut found. -/
theorem Cut.done {P Q : List E5} {a m b mid p s0 r0 s : Nat} (h : Cut P Q a m p s0 r0 s s) (hn : Nums a m b P.length Q.length mid p s0 r0) (h1 : Srt.Up elt P) (h2 : Srt.Up elt Q) :
    Srt.mrg elt P Q = Srt.mrg elt (P.take (s - a)) (Q.take (p + 1 - s - m)) ++ Srt.mrg elt (P.drop (s - a)) (Q.drop (p + 1 - s - m)) := by
  obtain ⟨d1, d2, d3, d4, d5, d6, d7, d8⟩ := hn.bd
  have b1 := h.b1
  have b3 := h.b3
  have hm := hn.em
  have hb := hn.eb
  have hp := hn.ep
  have hi2 := hn.i2
  have hmd := hn.emid
  have hj2 := hn.j2
  have A := cutA h1 h2 (u := s - a) (v := p + 1 - s - m) (by omega) (by
    by_cases e : s = s0
    · have lo := hn.lo
      by_cases hmm : mid < m
      · rw [if_pos hmm] at lo; exact .inr (.inl (by omega))
      · rw [if_neg hmm] at lo; exact .inl (by omega)
    · have k1 : s - a - 1 < P.length := by omega
      have k2 : p + 1 - s - m < Q.length := by omega
      have := h.l (s - 1) P[s - a - 1] Q[p + 1 - s - m] (by omega) (by omega) (by rw [show s - 1 - a = s - a - 1 by omega]; exact List.getElem?_eq_getElem k1) (by rw [show p - (s - 1) - m = p + 1 - s - m by omega]; exact List.getElem?_eq_getElem k2)
      exact .inr (.inr ⟨_, _, List.getElem?_eq_getElem k1, List.getElem?_eq_getElem k2, this⟩))
  have B := cutB h1 h2 (u := s - a) (v := p + 1 - s - m) (by
    by_cases e : s = r0
    · have hi := hn.hi
      by_cases hmm : mid < m
      · rw [if_pos hmm] at hi; exact .inr (.inl (by omega))
      · rw [if_neg hmm] at hi; exact .inl (by omega)
    · have k1 : s - a < P.length := by omega
      have k2 : p - s - m < Q.length := by omega
      have := h.g s P[s - a] Q[p - s - m] (by omega) (by omega) (List.getElem?_eq_getElem k1) (List.getElem?_eq_getElem k2)
      exact .inr (.inr ⟨_, _, List.getElem?_eq_getElem k1, by rw [show p + 1 - s - m - 1 = p - s - m by omega]; exact List.getElem?_eq_getElem k2, this⟩))
  have S := Srt.mrg_split (lt := elt) A B
  rw [List.take_append_drop, List.take_append_drop] at S
  exact S
end Go.Proofs.YtafmiilkdhdngaaGreatDoor
/- What is left of symMerge when its cut is found: three steps, each a call or none. -/
namespace Go.Proofs.YtafmiilkdhdngaaGreatDoor
open Go.ChangeShapes Go.WideShapes Go.ChangeAt Go.RowKit
set_option linter.unusedVariables false
set_option linter.unusedSimpArgs false
def SymOk (K B : Nat) : Prop := ∀ (a m b g N c : Nat) (T : TypeId) (pre P Q post : List E5) (W : World), P.length + Q.length ≤ K → Srtr W B → B ≠ g → pre.length = a → pre.length + P.length = m → pre.length + P.length + Q.length = b → 1 ≤ P.length → 1 ≤ Q.length → N = pre.length + P.length + Q.length + post.length → N ≤ 1000000 → (N ≤ c ∧ c ≤ maxLen) →
    Slv (pre ++ (P ++ (Q ++ post))) → RowE W g T (pre ++ (P ++ (Q ++ post))) → Srt.Up elt P → Srt.Up elt Q →
    Calls Tryz.prog 99 #[.slice (some ⟨g, 0, none⟩) N c, .int .i64 a, .int .i64 m, .int .i64 b, .func (.func 62) #[] #[.pointer (some ⟨B, 0, none⟩)]] W fun e w' => e = .returned (.tuple #[]) ∧ But W w' g ∧ RowE w' g T (pre ++ (Srt.mrg elt P Q ++ post))
/-- The cut found, and its parts. -/
theorem Cut.parts {P Q : List E5} {a m b mid p s0 r0 s : Nat} (h : Cut P Q a m p s0 r0 s s) (hn : Nums a m b P.length Q.length mid p s0 r0) (h1 : Srt.Up elt P) (h2 : Srt.Up elt Q) :
    ∃ P1 P2 Q1 Q2, P = P1 ++ P2 ∧ Q = Q1 ++ Q2 ∧ Srt.mrg elt P Q = Srt.mrg elt P1 Q1 ++ Srt.mrg elt P2 Q2 ∧ a + P1.length = s ∧ s + P2.length = m ∧ m + Q1.length = p + 1 - s ∧ p + 1 - s + Q2.length = b ∧ s + Q1.length = mid ∧ mid + P2.length = p + 1 - s ∧ (Srt.Up elt P1 ∧ Srt.Up elt P2 ∧ Srt.Up elt Q1 ∧ Srt.Up elt Q2) := by
  have MS := h.done hn h1 h2
  obtain ⟨d1, d2, d3, d4, d5, d6, d7, d8⟩ := hn.bd
  have b1 := h.b1
  have b3 := h.b3
  have hm := hn.em
  have hb := hn.eb
  have hp := hn.ep
  refine ⟨_, _, _, _, (List.take_append_drop (s - a) P).symm, (List.take_append_drop (p + 1 - s - m) Q).symm, MS, ?_, ?_, ?_, ?_, ?_, ?_, ?_⟩
  · rw [List.length_take]; omega
  · rw [List.length_drop]; omega
  · rw [List.length_take]; omega
  · rw [List.length_drop]; omega
  · rw [List.length_take]; omega
  · rw [List.length_drop]; omega
  · have e1 := h1
    have e2 := h2
    rw [← List.take_append_drop (s - a) P] at e1
    rw [← List.take_append_drop (p + 1 - s - m) Q] at e2
    exact ⟨(List.pairwise_append.1 e1).1, (List.pairwise_append.1 e1).2.1, (List.pairwise_append.1 e2).1, (List.pairwise_append.1 e2).2.1⟩
def SymRest (W : World) (B g N c a m b mid ns en : Nat) (T : TypeId) (R0 R1 R2 R3 : List E5) : Prop :=
  (∀ w, RowE w g T R0 → ns < m → m < en → Calls Tryz.prog 111 #[.slice (some ⟨g, 0, none⟩) N c, .int .i64 ns, .int .i64 m, .int .i64 en, .func (.func 62) #[] #[.pointer (some ⟨B, 0, none⟩)]] w fun e w' => e = .returned (.tuple #[]) ∧ But w w' g ∧ RowE w' g T R1) ∧
  (¬ (ns < m ∧ m < en) → R0 = R1) ∧
  (∀ w, But W w g → RowE w g T R1 → a < ns → ns < mid → Calls Tryz.prog 99 #[.slice (some ⟨g, 0, none⟩) N c, .int .i64 a, .int .i64 ns, .int .i64 mid, .func (.func 62) #[] #[.pointer (some ⟨B, 0, none⟩)]] w fun e w' => e = .returned (.tuple #[]) ∧ But w w' g ∧ RowE w' g T R2) ∧
  (¬ (a < ns ∧ ns < mid) → R1 = R2) ∧
  (∀ w, But W w g → RowE w g T R2 → mid < en → en < b → Calls Tryz.prog 99 #[.slice (some ⟨g, 0, none⟩) N c, .int .i64 mid, .int .i64 en, .int .i64 b, .func (.func 62) #[] #[.pointer (some ⟨B, 0, none⟩)]] w fun e w' => e = .returned (.tuple #[]) ∧ But w w' g ∧ RowE w' g T R3) ∧
  (¬ (mid < en ∧ en < b) → R2 = R3)
theorem nil_len {l : List E5} (h : l.length = 0) : l = [] := List.eq_nil_of_length_eq_zero h
theorem sym_rest (K B : Nat) (ih : ∀ k, k < K → SymOk k B) (a m b mid p s0 r0 ns g N c : Nat) (T : TypeId) (pre P Q post : List E5) (W : World) (hC : Cut P Q a m p s0 r0 ns ns) (hn : Nums a m b P.length Q.length mid p s0 r0) (hu1 : Srt.Up elt P) (hu2 : Srt.Up elt Q)
    (hK : P.length + Q.length ≤ K) (hS : Srtr W B) (hne : B ≠ g) (ha : pre.length = a) (hN : N = pre.length + P.length + Q.length + post.length) (hsm : N ≤ 1000000) (hc : N ≤ c ∧ c ≤ maxLen) (hform : Slv (pre ++ (P ++ (Q ++ post)))) :
    ∃ R1 R2, SymRest W B g N c a m b mid ns (p + 1 - ns) T (pre ++ (P ++ (Q ++ post))) R1 R2 (pre ++ (Srt.mrg elt P Q ++ post)) := by
  obtain ⟨d1, d2, d3, d4, d5, d6, d7, d8⟩ := hn.bd
  have hm := hn.em
  have hb := hn.eb
  obtain ⟨P1, P2, Q1, Q2, hP, hQ, hM, l1, l2, l3, l4, l5, l6, u1, u2, u3, u4⟩ := hC.parts hn hu1 hu2
  generalize hen : p + 1 - ns = en at *
  rw [hM]
  subst hP hQ
  simp only [List.length_append] at *
  refine ⟨pre ++ (P1 ++ (Q1 ++ (P2 ++ (Q2 ++ post)))), pre ++ (Srt.mrg elt P1 Q1 ++ (P2 ++ (Q2 ++ post))), ?_, ?_, ?_, ?_, ?_, ?_⟩
  · intro w hr g1 g2
    have := rotate_at ns m en g N c T (pre ++ P1) P2 Q1 (Q2 ++ post) (.func (.func 62) #[] #[.pointer (some ⟨B, 0, none⟩)]) w (by simp only [List.length_append]; omega) (by simp only [List.length_append]; omega) (by simp only [List.length_append]; omega) (by omega) (by omega) (by simp only [List.length_append]; omega) hsm hc (by simpa using hform) (by simpa using hr)
    refine this.mono ?_
    rintro e w' ⟨rfl, hb, hr⟩
    exact ⟨rfl, hb, by simpa using hr⟩
  · intro h
    rcases Nat.eq_zero_or_pos P2.length with h0 | h0
    · rw [nil_len h0]; simp
    · have : Q1.length = 0 := by omega
      rw [nil_len this]; simp
  · intro w hB hr g1 g2
    have := ih (P1.length + Q1.length) (by omega) a ns mid g N c T pre P1 Q1 (P2 ++ (Q2 ++ post)) w (Nat.le_refl _) (hS.but hB hne) hne ha (by omega) (by omega) (by omega) (by omega) (by simp only [List.length_append]; omega) hsm hc (fun e he => hform e (by
      simp only [List.mem_append] at he ⊢
      rcases he with he | he | he | he | he | he <;> simp [he])) hr u1 u3
    exact this
  · intro h
    rcases Nat.eq_zero_or_pos P1.length with h0 | h0
    · rw [nil_len h0, Srt.nil_mrg]; simp
    · have : Q1.length = 0 := by omega
      rw [nil_len this, Srt.mrg_nil]; simp
  · intro w hB hr g1 g2
    have := ih (P2.length + Q2.length) (by omega) mid en b g N c T (pre ++ Srt.mrg elt P1 Q1) P2 Q2 post w (Nat.le_refl _) (hS.but hB hne) hne (by simp only [List.length_append, Srt.mrg_len]; omega) (by simp only [List.length_append, Srt.mrg_len]; omega) (by simp only [List.length_append, Srt.mrg_len]; omega) (by omega) (by omega) (by simp only [List.length_append, Srt.mrg_len]; omega) hsm hc (fun e he => hform e (by
      simp only [List.mem_append] at he ⊢
      rcases he with (he | he) | he | he | he
      · simp [he]
      · rcases Srt.mem_mrg he with he | he <;> simp [he]
      · simp [he]
      · simp [he]
      · simp [he])) (by simpa using hr) u2 u4
    refine this.mono ?_
    rintro e w' ⟨rfl, hb, hr⟩
    exact ⟨rfl, hb, by simpa using hr⟩
  · intro h
    rcases Nat.eq_zero_or_pos P2.length with h0 | h0
    · rw [nil_len h0, Srt.nil_mrg]; simp
    · have : Q2.length = 0 := by omega
      rw [nil_len this, Srt.mrg_nil]; simp
end Go.Proofs.YtafmiilkdhdngaaGreatDoor
