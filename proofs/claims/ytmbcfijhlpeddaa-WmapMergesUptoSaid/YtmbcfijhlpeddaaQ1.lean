/- Put together by program (merge2.py): Srt Srw Namc Src Sri. -/
import Derived.BigRegion
import Derived.Deep.DeepCutAuto
import Derived.Deep.DrawnRows
import Derived.Deep.RegionHeld
import Derived.Test.YtmbcfijhlpeddaaD11
/- Stable sorting in numbers: rows made one (mrg), put in (ins), sorted (isort); symMerge's cut (mrg_split). -/
namespace Go.Proofs.Ytmbcfijhlpeddaa
open Go.ChangeShapes Go.WideShapes Go.ChangeAt Go.RowKit
set_option linter.unusedVariables false
set_option linter.unusedSimpArgs false
namespace Srt
/-- Orders told by a comparison: 'lt' is asymmetric, and 'not lt' goes on. -/
structure SOrd {α : Type} (lt : α → α → Bool) : Prop where
  asy : ∀ {x y}, lt x y = true → lt y x = false
  neg : ∀ {x y z}, lt y x = false → lt z y = false → lt z x = false
variable {α : Type} {lt : α → α → Bool}
theorem SOrd.irr (O : SOrd lt) (x : α) : lt x x = false := by
  cases h : lt x x with
  | false => rfl
  | true => rw [O.asy h] at h; cases h
/-- x < y and y ≤ z: x < z. -/
theorem SOrd.lt_le (O : SOrd lt) {x y z : α} (h1 : lt x y = true) (h2 : lt z y = false) : lt x z = true := by
  cases h : lt x z with
  | true => rfl
  | false => rw [O.neg h2 h] at h1; cases h1
/-- x ≤ y and y < z: x < z. -/
theorem SOrd.le_lt (O : SOrd lt) {x y z : α} (h1 : lt y x = false) (h2 : lt y z = true) : lt x z = true := by
  cases h : lt x z with
  | true => rfl
  | false => rw [O.neg h h1] at h2; cases h2
/-- In order: none ahead of one that it is less than. -/
def Up (lt : α → α → Bool) (l : List α) : Prop := l.Pairwise (fun x y => lt y x = false)
/-- Put x behind all that are not behind it. -/
def ins (lt : α → α → Bool) (x : α) : List α → List α
  | [] => [x]
  | y :: ys => if lt x y then x :: y :: ys else y :: ins lt x ys
/-- Two rows in order made one: of the right one only what is less. -/
def mrg (lt : α → α → Bool) : List α → List α → List α
  | [], B => B
  | a :: A, [] => a :: A
  | a :: A, b :: B => if lt b a then b :: mrg lt (a :: A) B else a :: mrg lt A (b :: B)
termination_by A B => A.length + B.length
def isort (lt : α → α → Bool) (l : List α) : List α := l.foldl (fun o x => ins lt x o) []

theorem mrg_cons (a b : α) (A B : List α) : mrg lt (a :: A) (b :: B) = if lt b a then b :: mrg lt (a :: A) B else a :: mrg lt A (b :: B) := by rw [mrg]
theorem mrg_nil (A : List α) : mrg lt A [] = A := by cases A <;> simp [mrg]
theorem nil_mrg (B : List α) : mrg lt [] B = B := by simp [mrg]
theorem mem_ins {x z : α} : ∀ {l : List α}, z ∈ ins lt x l → z = x ∨ z ∈ l := by
  intro l
  induction l with
  | nil => intro h; simpa [ins] using h
  | cons y ys ih =>
    intro h
    unfold ins at h
    split at h
    · simpa using h
    · rcases List.mem_cons.1 h with rfl | h
      · exact .inr (List.mem_cons_self ..)
      · rcases ih h with h | h
        · exact .inl h
        · exact .inr (List.mem_cons_of_mem _ h)
theorem ins_up (O : SOrd lt) (x : α) : ∀ {l : List α}, Up lt l → Up lt (ins lt x l) := by
  intro l
  induction l with
  | nil => intro _; simp [ins, Up]
  | cons y ys ih =>
    intro h
    have h' := List.pairwise_cons.1 h
    unfold ins
    split
    · rename_i hl
      refine List.pairwise_cons.2 ⟨fun z hz => ?_, h⟩
      rcases List.mem_cons.1 hz with rfl | hz
      · exact O.asy hl
      · exact O.neg (O.asy hl) (h'.1 z hz)
    · rename_i hl
      refine List.pairwise_cons.2 ⟨fun z hz => ?_, ih h'.2⟩
      rcases mem_ins hz with rfl | hz
      · simpa using hl
      · exact h'.1 z hz
theorem ins_len (x : α) (l : List α) : (ins lt x l).length = l.length + 1 := by
  induction l with
  | nil => rfl
  | cons y ys ih => unfold ins; split <;> simp [ih]
theorem mrg_len : ∀ (A B : List α), (mrg lt A B).length = A.length + B.length
  | [], B => by simp [mrg]
  | a :: A, [] => by simp [mrg]
  | a :: A, b :: B => by
    rw [mrg]
    split
    · rw [List.length_cons, mrg_len (a :: A) B]; simp; omega
    · rw [List.length_cons, mrg_len A (b :: B)]; simp; omega
termination_by A B => A.length + B.length
theorem mem_mrg {z : α} : ∀ {A B : List α}, z ∈ mrg lt A B → z ∈ A ∨ z ∈ B
  | [], B, h => .inr (by simpa [mrg] using h)
  | a :: A, [], h => .inl (by simpa [mrg] using h)
  | a :: A, b :: B, h => by
    rw [mrg] at h
    split at h
    · rcases List.mem_cons.1 h with rfl | h
      · exact .inr (List.mem_cons_self ..)
      · rcases mem_mrg h with h | h
        · exact .inl h
        · exact .inr (List.mem_cons_of_mem _ h)
    · rcases List.mem_cons.1 h with rfl | h
      · exact .inl (List.mem_cons_self ..)
      · rcases mem_mrg h with h | h
        · exact .inl (List.mem_cons_of_mem _ h)
        · exact .inr h
termination_by A B => A.length + B.length
theorem mrg_up (O : SOrd lt) : ∀ {A B : List α}, Up lt A → Up lt B → Up lt (mrg lt A B)
  | [], B, _, hB => by simpa [mrg] using hB
  | a :: A, [], hA, _ => by simpa [mrg] using hA
  | a :: A, b :: B, hA, hB => by
    have h1 := List.pairwise_cons.1 hA
    have h2 := List.pairwise_cons.1 hB
    rw [mrg]
    split
    · rename_i hl
      refine List.pairwise_cons.2 ⟨fun z hz => ?_, mrg_up O hA h2.2⟩
      rcases mem_mrg hz with hz | hz
      · rcases List.mem_cons.1 hz with rfl | hz
        · exact O.asy hl
        · exact O.neg (O.asy hl) (h1.1 z hz)
      · exact h2.1 z hz
    · rename_i hl
      have hl : lt b a = false := by simpa using hl
      refine List.pairwise_cons.2 ⟨fun z hz => ?_, mrg_up O h1.2 hB⟩
      rcases mem_mrg hz with hz | hz
      · exact h1.1 z hz
      · rcases List.mem_cons.1 hz with rfl | hz
        · exact hl
        · exact O.neg hl (h2.1 z hz)
termination_by A B => A.length + B.length
/-- Where two rows are cut so that each left part stays ahead, they may be made one part by part. -/
theorem mrg_split : ∀ {A1 A2 B1 B2 : List α}, (∀ a ∈ A1, ∀ b ∈ B2, lt b a = false) → (∀ a ∈ A2, ∀ b ∈ B1, lt b a = true) →
    mrg lt (A1 ++ A2) (B1 ++ B2) = mrg lt A1 B1 ++ mrg lt A2 B2
  | [], A2, [], B2, _, _ => by simp [mrg]
  | [], A2, b :: B1, B2, h1, h2 => by
    cases A2 with
    | nil => simp [mrg]
    | cons a A2 =>
      rw [List.nil_append, List.cons_append, mrg_cons, if_pos (h2 a (List.mem_cons_self ..) b (List.mem_cons_self ..)), nil_mrg]
      have := mrg_split (A1 := []) (A2 := a :: A2) (B1 := B1) (B2 := B2) (by simp) (fun x hx y hy => h2 x hx y (List.mem_cons_of_mem _ hy))
      rw [List.nil_append, nil_mrg] at this
      rw [this]; rfl
  | a :: A1, A2, [], B2, h1, h2 => by
    cases B2 with
    | nil => simp [mrg_nil]
    | cons b B2 =>
      rw [List.nil_append, List.cons_append, mrg_cons, if_neg (by rw [h1 a (List.mem_cons_self ..) b (List.mem_cons_self ..)]; decide), mrg_nil]
      have := mrg_split (A1 := A1) (A2 := A2) (B1 := []) (B2 := b :: B2) (fun x hx => h1 x (List.mem_cons_of_mem _ hx)) (by simp)
      rw [List.nil_append, mrg_nil] at this
      rw [this]; rfl
  | a :: A1, A2, b :: B1, B2, h1, h2 => by
    rw [List.cons_append, List.cons_append, mrg, mrg]
    split
    · have := mrg_split (A1 := a :: A1) (A2 := A2) (B1 := B1) (B2 := B2) h1 (fun x hx y hy => h2 x hx y (List.mem_cons_of_mem _ hy))
      rw [List.cons_append] at this
      rw [this]; rfl
    · have := mrg_split (A1 := A1) (A2 := A2) (B1 := b :: B1) (B2 := B2) (fun x hx => h1 x (List.mem_cons_of_mem _ hx)) h2
      rw [List.cons_append] at this
      rw [this]; rfl
termination_by A1 _ B1 _ => A1.length + B1.length
/-- An element put into two rows made one: into the right one. -/
theorem ins_mrg (O : SOrd lt) (x : α) : ∀ {A B : List α}, Up lt A → Up lt B → ins lt x (mrg lt A B) = mrg lt A (ins lt x B)
  | [], B, _, _ => by simp [mrg]
  | a :: A, [], hA, _ => by
    have h1 := List.pairwise_cons.1 hA
    rw [mrg_nil, ins, ins, mrg, mrg_nil]
    split
    · rfl
    · have := ins_mrg O x (A := A) (B := []) h1.2 .nil
      rw [mrg_nil, ins] at this
      rw [this]
  | a :: A, b :: B, hA, hB => by
    have h1 := List.pairwise_cons.1 hA
    have h2 := List.pairwise_cons.1 hB
    rw [mrg]
    by_cases hba : lt b a = true
    · rw [if_pos hba, ins, ins]
      by_cases hxb : lt x b = true
      · rw [if_pos hxb, if_pos hxb, mrg, if_pos (O.le_lt (O.asy hxb) hba), mrg, if_pos hba]
      · rw [if_neg hxb, if_neg hxb, mrg, if_pos hba, ins_mrg O x hA h2.2]
    · have hba' : lt b a = false := by simpa using hba
      rw [if_neg hba, ins]
      by_cases hxa : lt x a = true
      · have hxb : lt x b = true := O.lt_le hxa hba'
        rw [if_pos hxa, ins, if_pos hxb, mrg, if_pos hxa, mrg, if_neg hba]
      · rw [if_neg hxa, ins_mrg O x h1.2 hB]
        rw [show mrg lt (a :: A) (ins lt x (b :: B)) = a :: mrg lt A (ins lt x (b :: B)) from ?_]
        rw [ins]
        split
        · rename_i hxb
          rw [mrg, if_neg hxa]
        · rw [mrg, if_neg hba]
termination_by A B => A.length + B.length
theorem fold_up (O : SOrd lt) (l : List α) : ∀ {o : List α}, Up lt o → Up lt (l.foldl (fun o x => ins lt x o) o) := by
  induction l with
  | nil => intro o h; exact h
  | cons x l ih => intro o h; exact ih (ins_up O x h)
theorem isort_up (O : SOrd lt) (l : List α) : Up lt (isort lt l) := fold_up O l .nil
theorem fold_mrg (O : SOrd lt) (l : List α) : ∀ {A o : List α}, Up lt A → Up lt o → l.foldl (fun o x => ins lt x o) (mrg lt A o) = mrg lt A (l.foldl (fun o x => ins lt x o) o) := by
  induction l with
  | nil => intro A o _ _; rfl
  | cons x l ih =>
    intro A o hA ho
    rw [List.foldl_cons, List.foldl_cons, ins_mrg O x hA ho]
    exact ih hA (ins_up O x ho)
/-- Sorted in two parts that are made one then: sorted. -/
theorem isort_app (O : SOrd lt) (A B : List α) : isort lt (A ++ B) = mrg lt (isort lt A) (isort lt B) := by
  have h := fold_mrg O B (isort_up O A) .nil
  rw [mrg_nil] at h
  rw [isort, List.foldl_append]
  exact h
theorem fold_len (l : List α) : ∀ o : List α, (l.foldl (fun o x => ins lt x o) o).length = o.length + l.length := by
  induction l with
  | nil => intro o; rfl
  | cons x l ih => intro o; rw [List.foldl_cons, ih, ins_len, List.length_cons]; omega
theorem isort_len (l : List α) : (isort lt l).length = l.length := by rw [isort, fold_len]; simp
theorem isort_snoc (l : List α) (x : α) : isort lt (l ++ [x]) = ins lt x (isort lt l) := by simp [isort, List.foldl_append]
/-- Where x goes, found from behind: l in order, cut so that x is less than all of the right part, and than none of the left part. -/
theorem ins_cut {x : α} : ∀ {L R : List α}, (∀ y ∈ L, lt x y = false) → (∀ y ∈ R, lt x y = true) → ins lt x (L ++ R) = L ++ x :: R
  | [], [], _, _ => rfl
  | [], y :: R, _, h => by rw [List.nil_append, ins, if_pos (h y (List.mem_cons_self ..))]; rfl
  | y :: L, R, h1, h2 => by
    rw [List.cons_append, ins, if_neg (by rw [h1 y (List.mem_cons_self ..)]; decide), ins_cut (fun z hz => h1 z (List.mem_cons_of_mem _ hz)) h2]; rfl
theorem one_mrg {x : α} : ∀ {L R : List α}, (∀ y ∈ L, lt y x = true) → (∀ y ∈ R, lt y x = false) → mrg lt [x] (L ++ R) = L ++ x :: R
  | [], [], _, _ => by simp [mrg]
  | [], y :: R, _, h => by rw [List.nil_append, mrg, if_neg (by rw [h y (List.mem_cons_self ..)]; decide), nil_mrg]; rfl
  | y :: L, R, h1, h2 => by
    rw [List.cons_append, mrg, if_pos (h1 y (List.mem_cons_self ..)), one_mrg (fun z hz => h1 z (List.mem_cons_of_mem _ hz)) h2]; rfl
theorem mrg_one (x : α) : ∀ (l : List α), mrg lt l [x] = ins lt x l
  | [] => by simp [mrg, ins]
  | y :: l => by
    rw [mrg, ins]
    split
    · rw [mrg_nil]
    · rw [mrg_one x l]
/-- An element less than the last one of a part in order that stands right ahead: .. -/
theorem up_last (O : SOrd lt) {L : List α} {x y : α} (hu : Up lt (L ++ [y])) (h : lt x y = false) : ∀ z ∈ L ++ [y], lt x z = false := fun z hz => by
  rcases List.mem_append.1 hz with hz | hz
  · exact O.neg ((List.pairwise_append.1 hu).2.2 z hz y (by simp)) h
  · rw [List.mem_singleton] at hz; subst hz; exact h
theorem up_head (O : SOrd lt) {R : List α} {x y : α} (hu : Up lt (y :: R)) (h : lt x y = true) : ∀ z ∈ y :: R, lt x z = true := fun z hz => by
  rcases List.mem_cons.1 hz with rfl | hz
  · exact h
  · exact O.lt_le h ((List.pairwise_cons.1 hu).1 z hz)
theorem up_last' (O : SOrd lt) {L : List α} {x y : α} (hu : Up lt (L ++ [y])) (h : lt y x = true) : ∀ z ∈ L ++ [y], lt z x = true := fun z hz => by
  rcases List.mem_append.1 hz with hz | hz
  · exact O.le_lt ((List.pairwise_append.1 hu).2.2 z hz y (by simp)) h
  · rw [List.mem_singleton] at hz; subst hz; exact h
theorem up_head' (O : SOrd lt) {R : List α} {x y : α} (hu : Up lt (y :: R)) (h : lt y x = false) : ∀ z ∈ y :: R, lt z x = false := fun z hz => by
  rcases List.mem_cons.1 hz with rfl | hz
  · exact h
  · exact O.neg h ((List.pairwise_cons.1 hu).1 z hz)
/-- Keys of two ints. -/
def klt (x y : Int × Int) : Bool := decide (x.1 < y.1 ∨ x.1 = y.1 ∧ x.2 < y.2)
theorem klt_ord {β : Type} (key : β → Int × Int)   : SOrd (fun x y : β => klt (key x) (key y)) where
  asy := by intro x y h; unfold klt at *; simp only [decide_eq_true_eq, decide_eq_false_iff_not] at *; omega
  neg := by intro x y z h1 h2; unfold klt at *; simp only [decide_eq_false_iff_not] at *; omega
end Srt
end Go.Proofs.Ytmbcfijhlpeddaa
/- Rows of structs of five cells that are sorted in place: their cells, one set, two swapped. -/
namespace Go.Proofs.Ytmbcfijhlpeddaa
open Go.ChangeShapes Go.WideShapes Go.ChangeAt Go.RowKit
set_option linter.unusedVariables false
set_option linter.unusedSimpArgs false
/-- A struct of five cells: four ints and a value. -/
structure E5 where
  a : Int
  b : Int
  k : Int
  n : Int
  v : Value
def cE (e : E5) : List Value := [.int .i64 e.a, .int .i64 e.b, .int .i64 e.k, .int .i64 e.n, e.v]
def agE (e : E5) : Value := .agg #[.int .i64 e.a, .int .i64 e.b, .int .i64 e.k, .int .i64 e.n, e.v]
def cL (l : List E5) : List Value := l.flatMap cE
theorem cL_cons (e : E5) (l : List E5) : cL (e :: l) = .int .i64 e.a :: .int .i64 e.b :: .int .i64 e.k :: .int .i64 e.n :: e.v :: cL l := rfl
theorem cL_len (l : List E5) : (cL l).length = l.length * 5 := by
  induction l with
  | nil => rfl
  | cons e l ih => rw [cL_cons]; simp only [List.length_cons, ih]; omega
theorem cL_at : ∀ {l : List E5} {i : Nat} {e : E5}, l[i]? = some e → (cL l)[i * 5]? = some (.int .i64 e.a) ∧ (cL l)[i * 5 + 1]? = some (.int .i64 e.b) ∧ (cL l)[i * 5 + 2]? = some (.int .i64 e.k) ∧ (cL l)[i * 5 + 3]? = some (.int .i64 e.n) ∧ (cL l)[i * 5 + 4]? = some e.v
  | [], _, _, h => by simp at h
  | x :: l, 0, e, h => by
    simp at h; subst h
    exact ⟨rfl, rfl, rfl, rfl, rfl⟩
  | x :: l, i + 1, e, h => by
    have h' : l[i]? = some e := by simpa using h
    have ih := cL_at h'
    rw [show (i + 1) * 5 = i * 5 + 5 by omega, cL_cons]
    rw [show i * 5 + 5 + 1 = i * 5 + 1 + 5 by omega, show i * 5 + 5 + 2 = i * 5 + 2 + 5 by omega, show i * 5 + 5 + 3 = i * 5 + 3 + 5 by omega, show i * 5 + 5 + 4 = i * 5 + 4 + 5 by omega]
    simpa using ih
def set5 (l : List Value) (o : Nat) (e : E5) : List Value := ((((l.set o (.int .i64 e.a)).set (o + 1) (.int .i64 e.b)).set (o + 2) (.int .i64 e.k)).set (o + 3) (.int .i64 e.n)).set (o + 4) e.v
theorem cL_set : ∀ (l : List E5) (i : Nat) (e : E5), set5 (cL l) (i * 5) e = cL (l.set i e)
  | [], i, e => by simp [set5, cL]
  | x :: l, 0, e => by rw [cL_cons]; rfl
  | x :: l, i + 1, e => by
    have ih := cL_set l i e
    rw [List.set_cons_succ, cL_cons, cL_cons, ← ih]
    unfold set5
    rw [show (i + 1) * 5 = i * 5 + 5 by omega, show i * 5 + 5 + 1 = i * 5 + 1 + 5 by omega, show i * 5 + 5 + 2 = i * 5 + 2 + 5 by omega, show i * 5 + 5 + 3 = i * 5 + 3 + 5 by omega, show i * 5 + 5 + 4 = i * 5 + 4 + 5 by omega]
    simp
/-- Block g is such a row. -/
def RowE (w : World) (g : Nat) (T : TypeId) (l : List E5) : Prop := w.heap[g]? = some (.cells (cL l).toArray T (0, 0))
theorem RowE.lt {w : World} {g : Nat} {T : TypeId} {l : List E5} (h : RowE w g T l) : g < w.heap.size := by
  by_cases hl : g < w.heap.size
  · exact hl
  · unfold RowE at h; rw [Array.getElem?_eq_none (by omega)] at h; cases h
theorem RowE.cells {w : World} {g : Nat} {T : TypeId} {l : List E5} (h : RowE w g T l) {i : Nat} {e : E5} (hi : l[i]? = some e) :
    w.cell? ⟨g, i * 5, none⟩ = some (.int .i64 e.a) ∧ w.cell? ⟨g, i * 5 + 1, none⟩ = some (.int .i64 e.b) ∧ w.cell? ⟨g, i * 5 + 2, none⟩ = some (.int .i64 e.k) ∧ w.cell? ⟨g, i * 5 + 3, none⟩ = some (.int .i64 e.n) ∧ w.cell? ⟨g, i * 5 + 4, none⟩ = some e.v := by
  obtain ⟨h0, h1, h2, h3, h4⟩ := cL_at hi
  unfold RowE at h
  refine ⟨?_, ?_, ?_, ?_, ?_⟩ <;> (rw [cell_of_row _ _ _ _ _ _ h]; simpa using by assumption)
theorem RowE.free {w : World} {g : Nat} {T : TypeId} {l : List E5} (h : RowE w g T l) (o : Nat) : w.frozen? ⟨g, o, none⟩ = false := frozen_of_row _ _ _ _ _ h
theorem RowE.below {w w' : World} {g : Nat} {T : TypeId} {l : List E5} (h : RowE w g T l) (hb : Below w.heap.size w w') : RowE w' g T l := (hb.block g h.lt).trans h
def s5o (w : World) (b o : Nat) (e : E5) : World := ((((w.setCell ⟨b, o, none⟩ (.int .i64 e.a)).setCell ⟨b, o + 1, none⟩ (.int .i64 e.b)).setCell ⟨b, o + 2, none⟩ (.int .i64 e.k)).setCell ⟨b, o + 3, none⟩ (.int .i64 e.n)).setCell ⟨b, o + 4, none⟩ e.v
theorem row_put {w : World} {g o : Nat} {cs : Array Value} {T : TypeId} {fr : Nat × Nat} (h : w.heap[g]? = some (.cells cs T fr)) (v : Value) : (w.setCell ⟨g, o, none⟩ v).heap[g]? = some (.cells (cs.setIfInBounds o v) T fr) := by
  simp [World.setCell, Array.getElem?_modify, h]
theorem RowE.set {w : World} {g : Nat} {T : TypeId} {l : List E5} (h : RowE w g T l) (i : Nat) (e : E5) : RowE (s5o w g (i * 5) e) g T (l.set i e) := by
  unfold RowE at *
  unfold s5o
  have k := row_put (row_put (row_put (row_put (row_put h (o := i * 5) (.int .i64 e.a)) (o := i * 5 + 1) (.int .i64 e.b)) (o := i * 5 + 2) (.int .i64 e.k)) (o := i * 5 + 3) (.int .i64 e.n)) (o := i * 5 + 4) e.v
  rw [k, ← cL_set]
  simp [set5]
theorem s5o_but (w : World) (b o : Nat) (e : E5) : But w (s5o w b o e) b := ((((But.set _ _ _ _).trans (But.set _ _ _ _)).trans (But.set _ _ _ _)).trans (But.set _ _ _ _)).trans (But.set _ _ _ _)
/-- Two that stand side by side, swapped. -/
theorem set_swap {α : Type} (P R : List α) (x y : α) : ((P ++ y :: x :: R).set P.length x).set (P.length + 1) y = P ++ x :: y :: R := by
  induction P with
  | nil => rfl
  | cons p P ih => simp
theorem set_swap' {α : Type} (P R : List α) (x y : α) : ((P ++ y :: x :: R).set (P.length + 1) y).set P.length x = P ++ x :: y :: R := by
  induction P with
  | nil => rfl
  | cons p P ih => simp
end Go.Proofs.Ytmbcfijhlpeddaa
/- Names of tables: need.Right, Room, Cmp, and reference 15's. -/
namespace Go.Proofs.Ytmbcfijhlpeddaa
open Go.ChangeShapes Go.WideShapes Go.ChangeAt Go.RowKit
set_option linter.unusedVariables false
theorem box4 (W : World) (k n m d : Int) (T : TypeId) : ∃ w0 : World, w0 = W.alloc (.cells #[.int .i64 k, .int .i64 n, .int .i64 m, .int .i64 d] T) ∧ w0.cell? ⟨W.heap.size, 0, none⟩ = some (.int .i64 k) ∧ w0.cell? ⟨W.heap.size, 1, none⟩ = some (.int .i64 n) ∧ w0.cell? ⟨W.heap.size, 2, none⟩ = some (.int .i64 m) ∧ w0.cell? ⟨W.heap.size, 3, none⟩ = some (.int .i64 d) ∧ Below W.heap.size W w0 ∧ W.heap.size < w0.heap.size := by
  have hn := heap_alloc_new W (.cells #[.int .i64 k, .int .i64 n, .int .i64 m, .int .i64 d] T)
  refine ⟨_, rfl, ?_, ?_, ?_, ?_, (Below.refl _ _).alloc (Nat.le_refl _) _, by simp⟩ <;> (rw [cell_of_row _ _ _ _ _ _ hn]; rfl)
/-- How two numbers stand. -/
def cmp3 (x y : Int) : Int := if x < y then -1 else if y < x then 1 else 0
theorem cmp3_lt {x y : Int} (h : x < y) : cmp3 x y = -1 := by unfold cmp3; rw [if_pos h]
theorem cmp3_gt {x y : Int} (h : y < x) : cmp3 x y = 1 := by unfold cmp3; rw [if_neg (by omega), if_pos h]
theorem cmp3_eq {x y : Int} (h : x = y) : cmp3 x y = 0 := by unfold cmp3; rw [if_neg (by omega), if_neg (by omega)]
theorem cmp_nan (x : Int) (W : World) : Calls Try.prog 54 #[.int .i64 x] W fun e w' => e = .returned (.bool false) ∧ W = w' := by
  have hx : (x != x) = false := by simp
  go_enter Try.func54, Try.ntmps54
  go_wp2_with fail
  go_ret
  exact ⟨rfl, rfl⟩
theorem cmp_compare (x y : Int) (W : World) : Calls Try.prog 45 #[.int .i64 x, .int .i64 y] W fun e w' => e = .returned (.int .i64 (cmp3 x y)) ∧ W = w' := by
  have NN := Lib.hid (fun x w => cmp_nan x w)
  rcases Int.lt_trichotomy x y with h | h | h
  · have E := Lib.hid (cmp3_lt h)
    have d1 : decide (x < y) = true := decide_eq_true h
    go_enter Try.func45, Try.ntmps45
    go_wp2_with fail
    refine (NN.out _ _).mono ?_
    rintro e w1 ⟨rfl, rfl⟩
    go_wp2_with fail
    refine (NN.out _ _).mono ?_
    rintro e w1 ⟨rfl, rfl⟩
    go_wp2_with fail
    go_ret
    exact ⟨by rw [E.out]; rfl, rfl⟩
  · have E := Lib.hid (cmp3_eq h)
    subst h
    have d1 : decide (x < x) = false := decide_eq_false (by omega)
    go_enter Try.func45, Try.ntmps45
    go_wp2_with fail
    refine (NN.out _ _).mono ?_
    rintro e w1 ⟨rfl, rfl⟩
    go_wp2_with fail
    refine (NN.out _ _).mono ?_
    rintro e w1 ⟨rfl, rfl⟩
    go_wp2_with fail
    go_ret
    exact ⟨by rw [E.out]; rfl, rfl⟩
  · have E := Lib.hid (cmp3_gt h)
    have d1 : decide (x < y) = false := decide_eq_false (by omega)
    have d2 : decide (y < x) = true := decide_eq_true h
    go_enter Try.func45, Try.ntmps45
    go_wp2_with fail
    refine (NN.out _ _).mono ?_
    rintro e w1 ⟨rfl, rfl⟩
    go_wp2_with fail
    refine (NN.out _ _).mono ?_
    rintro e w1 ⟨rfl, rfl⟩
    go_wp2_with fail
    go_ret
    exact ⟨by rw [E.out]; rfl, rfl⟩
/-- The first that is not nought. -/
def fz : List Int → Int
  | [] => 0
  | x :: r => if x = 0 then fz r else x
theorem fz_at : ∀ (xs : List Int) (k : Nat), k < xs.length → (∀ j, j < k → xs.getD j 0 = 0) → xs.getD k 0 ≠ 0 → fz xs = xs.getD k 0
  | [], k, h, _, _ => by simp at h
  | x :: r, 0, _, _, hk => by
    simp at hk ⊢
    rw [fz, if_neg hk]
  | x :: r, k + 1, h, h0, hk => by
    have e0 : x = 0 := by simpa using h0 0 (by omega)
    rw [fz, if_pos e0, fz_at r k (by simpa using h) (fun j hj => by simpa using h0 (j + 1) (by omega)) (by simpa using hk)]
    simp
theorem fz_none : ∀ (xs : List Int), (∀ j, j < xs.length → xs.getD j 0 = 0) → fz xs = 0
  | [], _ => rfl
  | x :: r, h => by
    have e0 : x = 0 := by simpa using h 0 (by simp)
    rw [fz, if_pos e0, fz_none r (fun j hj => by simpa using h (j + 1) (by simpa using hj))]
set_option maxRecDepth 100000 in
theorem cmp_or (p : Option Addr) (n c : Nat) (xs : List Int) (W : World) (hr : RowI W p n xs) :
    Calls Try.prog 44 #[.slice p n c] W fun e w' => e = .returned (.int .i64 (fz xs)) ∧ W = w' := by
  have HX := Lib.hid hr
  have hs := hr.small
  have FA := Lib.hid (fun k h => fz_at xs k (by rw [hr.len]; exact h))
  have FZ := Lib.hid (fz_none xs)
  generalize fz xs = z at *
  clear hr
  go_enter Try.func44, Try.ntmps44
  go_wp2_with fail
  go_loopw [8] (fun i wr => ∃ k : Nat, k ≤ n ∧ i = .int .i64 k ∧ Hid (∀ j, j < k → xs.getD j 0 = 0) ∧ W = wr) (fun i _ => n - (intOf i).toNat)
  case atStart => refine ⟨0, Nat.zero_le _, rfl, Lib.hid (fun j hj => by omega), ?_⟩; first | rfl | trivial
  case round =>
    obtain ⟨k, hk, rfl, HZ, rfl⟩ := hrel
    by_cases hlt : k < n
    · have hd : decide ((k : Int) < (n : Int)) = true := decide_eq_true (by omega)
      obtain ⟨b, off, rfl, hb, hc, x0, x1⟩ := HX.out.cell hlt
      have FA1 := Lib.hid (fun h => FA.out k hlt HZ.out h)
      have HZ2 := Lib.hid (fun (h : xs.getD k 0 = 0) j (hj : j < k + 1) => (show xs.getD j 0 = 0 by
        by_cases e : j = k
        · rw [e]; exact h
        · exact HZ.out j (by omega)))
      generalize xs.getD k 0 = x at *
      by_cases hx : x = 0
      · have HZ3 := Lib.hid (HZ2.out hx)
        subst hx
        go_wp2_with fail
        go_roundw
        case rel => exact ⟨k + 1, by omega, by go_num, HZ3, trivial⟩
        case measure => (first | (simp [intOf]; done) | (simp [intOf]; omega) | (simp only [intOf]; omega))
      · have E := Lib.hid (FA1.out hx)
        have hx0 : (x != 0) = true := by simp; omega
        go_wp2_with fail
        go_ret
        exact ⟨by rw [E.out]; rfl, rfl⟩
    · obtain rfl : k = n := by omega
      have hd : decide ((k : Int) < (k : Int)) = false := decide_eq_false (by omega)
      have E := Lib.hid (FZ.out (fun j hj => HZ.out j (by rw [HX.out.len] at hj; exact hj)))
      go_wp2_with fail
      go_ret
      exact ⟨by rw [E.out]; rfl, rfl⟩
/-- How two names stand. -/
def ncmp (k n m d k' n' m' d' : Int) : Int := fz [cmp3 k k', cmp3 n n', cmp3 m m', cmp3 d d']
theorem two_boxes (W : World) (k n m d k' n' m' d' : Int) (T : TypeId) : ∃ w0 : World, w0 = (W.alloc (.cells #[.int .i64 k, .int .i64 n, .int .i64 m, .int .i64 d] T)).alloc (.cells #[.int .i64 k', .int .i64 n', .int .i64 m', .int .i64 d'] T) ∧
    (w0.cell? ⟨W.heap.size, 0, none⟩ = some (.int .i64 k) ∧ w0.cell? ⟨W.heap.size, 1, none⟩ = some (.int .i64 n) ∧ w0.cell? ⟨W.heap.size, 2, none⟩ = some (.int .i64 m) ∧ w0.cell? ⟨W.heap.size, 3, none⟩ = some (.int .i64 d)) ∧
    (w0.cell? ⟨W.heap.size + 1, 0, none⟩ = some (.int .i64 k') ∧ w0.cell? ⟨W.heap.size + 1, 1, none⟩ = some (.int .i64 n') ∧ w0.cell? ⟨W.heap.size + 1, 2, none⟩ = some (.int .i64 m') ∧ w0.cell? ⟨W.heap.size + 1, 3, none⟩ = some (.int .i64 d')) ∧
    Below W.heap.size W w0 ∧ w0.heap.size = W.heap.size + 2 := by
  obtain ⟨w1, h1, a0, a1, a2, a3, b1, l1⟩ := box4 W k n m d T
  obtain ⟨w2, h2, c0, c1, c2, c3, b2, l2⟩ := box4 w1 k' n' m' d' T
  have e1 : w1.heap.size = W.heap.size + 1 := by rw [h1]; simp
  rw [e1] at c0 c1 c2 c3
  refine ⟨w2, by rw [h2, h1], ⟨?_, ?_, ?_, ?_⟩, ⟨c0, c1, c2, c3⟩, b1.trans (b2.mono b1.size), by rw [h2]; simp [e1]⟩
  · exact (b2.cell (p := ⟨W.heap.size, 0, none⟩) l1).trans a0
  · exact (b2.cell (p := ⟨W.heap.size, 1, none⟩) l1).trans a1
  · exact (b2.cell (p := ⟨W.heap.size, 2, none⟩) l1).trans a2
  · exact (b2.cell (p := ⟨W.heap.size, 3, none⟩) l1).trans a3
theorem cmp3_wf (x y : Int) : (Lit.int .i64 (cmp3 x y)).wf = true := by
  unfold cmp3
  split
  · rfl
  · split <;> rfl
theorem row4_lies (w : World) (T : TypeId) (a b c d : Int) (ha : (Lit.int .i64 a).wf = true) (hb : (Lit.int .i64 b).wf = true) (hc : (Lit.int .i64 c).wf = true) (hd : (Lit.int .i64 d).wf = true) :
    RowI (w.alloc (.cells #[.int .i64 a, .int .i64 b, .int .i64 c, .int .i64 d] T)) (some ⟨w.heap.size, 0, none⟩) 4 [a, b, c, d] := by
  refine ⟨rfl, .inr ⟨w.heap.size, 0, rfl, by simp, fun i hi => ?_⟩, fun z hz => ?_, by omega⟩
  · rw [cell_of_row _ _ _ _ _ _ (heap_alloc_new w _)]
    have : i = 0 ∨ i = 1 ∨ i = 2 ∨ i = 3 := by simp at hi; omega
    rcases this with rfl | rfl | rfl | rfl <;> rfl
  · simp only [List.mem_cons, List.not_mem_nil, or_false] at hz
    rcases hz with rfl | rfl | rfl | rfl <;> assumption
theorem four_at (a b c d : Int) {t : Nat} (ht : t < 4) : t = 0 ∨ t = 1 ∨ t = 2 ∨ t = 3 := by omega
theorem two_rows (W : World) (A B : Obj) (k n m d k' n' m' d' : Int) (T : TypeId) : ∃ w4 : World, w4 = (((W.alloc A).alloc B).alloc (.cells #[.int .i64 k, .int .i64 n, .int .i64 m, .int .i64 d] T)).alloc (.cells #[.int .i64 k', .int .i64 n', .int .i64 m', .int .i64 d'] T) ∧
    (∀ t, t < 4 → w4.cell? ⟨W.heap.size + 1 + 1, t, none⟩ = some (.int .i64 ([k, n, m, d].getD t 0))) ∧ (∀ t, t < 4 → w4.cell? ⟨W.heap.size + 1 + 1 + 1, t, none⟩ = some (.int .i64 ([k', n', m', d'].getD t 0))) ∧
    Below W.heap.size W w4 ∧ W.heap.size + 4 ≤ w4.heap.size := by
  have e2 : ((W.alloc A).alloc B).heap.size = W.heap.size + 1 + 1 := by simp
  obtain ⟨w1, h1, a0, a1, a2, a3, b1, l1⟩ := box4 ((W.alloc A).alloc B) k n m d T
  obtain ⟨w2, h2, c0, c1, c2, c3, b2, l2⟩ := box4 w1 k' n' m' d' T
  have e1 : w1.heap.size = W.heap.size + 1 + 1 + 1 := by rw [h1]; simp
  rw [e2] at a0 a1 a2 a3
  rw [e1] at c0 c1 c2 c3
  refine ⟨w2, by rw [h2, h1], fun t ht => ?_, fun t ht => ?_, ?_, by rw [h2]; simp [e1]⟩
  · refine (b2.cell (p := ⟨W.heap.size + 1 + 1, t, none⟩) (by show W.heap.size + 1 + 1 < _; omega)).trans ?_
    rcases four_at 0 0 0 0 ht with rfl | rfl | rfl | rfl
    · exact a0
    · exact a1
    · exact a2
    · exact a3
  · rcases four_at 0 0 0 0 ht with rfl | rfl | rfl | rfl
    · exact c0
    · exact c1
    · exact c2
    · exact c3
  · have b0 : Below W.heap.size W ((W.alloc A).alloc B) := ((Below.refl _ _).alloc (Nat.le_refl _) A).alloc (by simp) B
    exact (b0.trans (b1.mono (by rw [e2]; omega))).trans (b2.mono (by rw [e1]; omega))
theorem cmp3_neg (x y : Int) : cmp3 y x = - cmp3 x y := by
  rcases Int.lt_trichotomy x y with h | h | h
  · rw [cmp3_lt h, cmp3_gt h]; rfl
  · rw [cmp3_eq h, cmp3_eq h.symm]; rfl
  · rw [cmp3_gt h, cmp3_lt h]
theorem fz_neg : ∀ xs : List Int, fz (xs.map fun x => -x) = - fz xs
  | [] => rfl
  | x :: r => by
    rw [List.map_cons, fz, fz]
    by_cases h : x = 0
    · rw [if_pos h, if_pos (by omega), fz_neg r]
    · rw [if_neg h, if_neg (by omega)]
theorem ncmp_neg (k n m d k' n' m' d' : Int) : ncmp k' n' m' d' k n m d = - ncmp k n m d k' n' m' d' := by
  unfold ncmp
  rw [cmp3_neg k k', cmp3_neg n n', cmp3_neg m m', cmp3_neg d d', ← fz_neg]
  rfl
theorem ncmp_bd (k n m d k' n' m' d' : Int) : -1 ≤ ncmp k n m d k' n' m' d' ∧ ncmp k n m d k' n' m' d' ≤ 1 := by
  have c : ∀ x y, -1 ≤ cmp3 x y ∧ cmp3 x y ≤ 1 := fun x y => by unfold cmp3; split <;> (try split) <;> omega
  have f : ∀ xs : List Int, (∀ x ∈ xs, -1 ≤ x ∧ x ≤ 1) → -1 ≤ fz xs ∧ fz xs ≤ 1 := fun xs => by
    induction xs with
    | nil => intro _; unfold fz; omega
    | cons x r ih =>
      intro h
      unfold fz
      split
      · exact ih fun y hy => h y (List.mem_cons_of_mem _ hy)
      · exact h x (List.mem_cons_self ..)
  refine f _ fun x hx => ?_
  simp only [List.mem_cons, List.not_mem_nil, or_false] at hx
  rcases hx with rfl | rfl | rfl | rfl <;> exact c _ _
end Go.Proofs.Ytmbcfijhlpeddaa
/- entry.Cmp, and the sorter's closure over it. -/
namespace Go.Proofs.Ytmbcfijhlpeddaa
open Go.ChangeShapes Go.WideShapes Go.ChangeAt Go.RowKit
set_option linter.unusedVariables false
set_option linter.unusedSimpArgs false
def cmpK (a b a' b' : Int) : Int := fz [cmp3 a a', cmp3 b b']
theorem cmpK_lt (a b a' b' : Int) : decide (cmpK a b a' b' < 0) = Srt.klt (a, b) (a', b') := by
  unfold cmpK Srt.klt cmp3
  simp only [fz]
  by_cases h1 : a < a'
  · simp [h1]
  · by_cases h2 : a' < a
    · simp [h1, h2]; omega
    · have : a = a' := by omega
      subst this
      by_cases h3 : b < b'
      · simp [h3]
      · by_cases h4 : b' < b
        · simp [h3, h4]
        · simp [h3, h4]
theorem row2i (w : World) (x y : Int) (T : TypeId) (hx : (Lit.int .i64 x).wf = true) (hy : (Lit.int .i64 y).wf = true) : RowI (w.alloc (.cells #[.int .i64 x, .int .i64 y] T)) (some ⟨w.heap.size, 0, none⟩) 2 [x, y] :=
  RowI.of_at (T := T) (by unfold RowAtI; exact heap_alloc_new _ _) (by
    intro u hu
    simp only [List.mem_cons, List.not_mem_nil, or_false] at hu
    rcases hu with rfl | rfl <;> assumption) rfl (by decide)
theorem box2k (W : World) (a b a' b' : Int) (T : TypeId) : ∃ w0 : World, w0 = (W.alloc (.cells #[.int .i64 a, .int .i64 b] T)).alloc (.cells #[.int .i64 a', .int .i64 b'] T) ∧ w0.cell? ⟨W.heap.size, 0, none⟩ = some (.int .i64 a) ∧ w0.cell? ⟨W.heap.size, 1, none⟩ = some (.int .i64 b) ∧ w0.cell? ⟨W.heap.size + 1, 0, none⟩ = some (.int .i64 a') ∧ w0.cell? ⟨W.heap.size + 1, 1, none⟩ = some (.int .i64 b') ∧ Below W.heap.size W w0 ∧ w0.heap.size = W.heap.size + 2 := by
  have h1 := heap_alloc_new W (.cells #[.int .i64 a, .int .i64 b] T)
  have h2 := heap_alloc_new (W.alloc (.cells #[.int .i64 a, .int .i64 b] T)) (.cells #[.int .i64 a', .int .i64 b'] T)
  have h3 := (Below.heap_alloc (W.alloc (.cells #[.int .i64 a, .int .i64 b] T)) (.cells #[.int .i64 a', .int .i64 b'] T) W.heap.size (by simp)).trans h1
  simp only [World.size_alloc] at h2
  exact ⟨_, rfl, by rw [cell_of_row _ _ _ _ _ _ h3]; rfl, by rw [cell_of_row _ _ _ _ _ _ h3]; rfl, by rw [cell_of_row _ _ _ _ _ _ h2]; rfl, by rw [cell_of_row _ _ _ _ _ _ h2]; rfl, ((Below.refl _ _).alloc (Nat.le_refl _) _).alloc (by simp) _, by simp⟩
attribute [local go_sem ↓] Go.wp_at_zero Go.wp_at_succ
set_option maxRecDepth 100000 in
set_option maxHeartbeats 4000000 in
theorem e_cmp (a b a' b' : Int) (W : World) : Calls Try.prog 37 #[.agg #[.int .i64 a, .int .i64 b], .agg #[.int .i64 a', .int .i64 b']] W fun e w' => e = .returned (.int .i64 (cmpK a b a' b')) ∧ Below W.heap.size W w' := by
  obtain ⟨w0, hw0, x0, x1, y0, y1, hB0, hs0⟩ := box2k W a b a' b' 24
  have HW0 := Lib.hid hw0.symm
  have c1 := cmp3_wf a a'
  have c2 := cmp3_wf b b'
  have E := Lib.hid (show cmpK a b a' b' = fz [cmp3 a a', cmp3 b b'] from rfl)
  have CC := Lib.hid (fun x y w => cmp_compare x y w)
  have OR := Lib.hid (cmp_or (some ⟨w0.heap.size, 0, none⟩) 2 2 [cmp3 a a', cmp3 b b'] (w0.alloc (.cells #[.int .i64 (cmp3 a a'), .int .i64 (cmp3 b b')] 3)).drew ((row2i w0 _ _ 3 c1 c2).below (Below.refl _ _).drew))
  have lt0 : W.heap.size < w0.heap.size := by omega
  have lt1 : W.heap.size + 1 < w0.heap.size := by omega
  have MK := Lib.hid (fun w' (hb : Below w0.heap.size w0 w') => (show w'.cell? ⟨W.heap.size, 0, none⟩ = some (.int .i64 a) ∧ w'.cell? ⟨W.heap.size, 1, none⟩ = some (.int .i64 b) ∧ w'.cell? ⟨W.heap.size + 1, 0, none⟩ = some (.int .i64 a') ∧ w'.cell? ⟨W.heap.size + 1, 1, none⟩ = some (.int .i64 b') ∧ Below w0.heap.size w0 w' from
    ⟨(hb.cell (p := ⟨W.heap.size, 0, none⟩) lt0).trans x0, (hb.cell (p := ⟨W.heap.size, 1, none⟩) lt0).trans x1, (hb.cell (p := ⟨W.heap.size + 1, 0, none⟩) lt1).trans y0, (hb.cell (p := ⟨W.heap.size + 1, 1, none⟩) lt1).trans y1, hb⟩))
  generalize cmpK a b a' b' = z at *
  have HB0 := Lib.hid hB0
  clear hw0 hs0 c1 c2 lt0 lt1 hB0
  go_enter Try.func37, Try.ntmps37
  go_upto_region 1 with fail
  rw [HW0.out]
  generalize W.heap.size + 1 = Y at *
  generalize hX : W.heap.size = X at *
  go_region_held3 (fun w' => w'.cell? ⟨X, 0, none⟩ = some (.int .i64 a) ∧ w'.cell? ⟨X, 1, none⟩ = some (.int .i64 b) ∧ w'.cell? ⟨Y, 0, none⟩ = some (.int .i64 a') ∧ w'.cell? ⟨Y, 1, none⟩ = some (.int .i64 b') ∧ Below w0.heap.size w0 w') (first | exact MK.out _ ((Below.refl _ _).drew) | assumption | exact MK.out _ (((Below.refl _ _).alloc (Nat.le_refl _) _).drew) | exact MK.out _ (((Below.refl _ _).drew).alloc (by simp) _).drew) (first | (go_at_call 45; (with_reducible refine (CC.out _ _ _).mono ?_); rintro e w' ⟨rfl, rfl⟩) | (go_at_call 44; (with_reducible refine OR.out.mono ?_); rintro e w' ⟨rfl, rfl⟩))
  rename_i hSS
  obtain ⟨_, _, _, _, hBB⟩ := hSS
  go_wp2_with fail
  go_ret
  exact ⟨by rw [E.out]; rfl, by rw [hX]; exact HB0.out.trans (hBB.mono (by have := HB0.out.size; omega))⟩
end Go.Proofs.Ytmbcfijhlpeddaa
/- The sorter's closure; insertion sort in place. -/
namespace Go.Proofs.Ytmbcfijhlpeddaa
open Go.ChangeShapes Go.WideShapes Go.ChangeAt Go.RowKit
set_option linter.unusedVariables false
set_option linter.unusedSimpArgs false
attribute [local go_sem ↓] Go.wp_at_zero Go.wp_at_succ
theorem box5e (W : World) (a b k n : Int) (v : Value) (T : TypeId) : ∃ w0 : World, w0 = W.alloc (.cells #[.int .i64 a, .int .i64 b, .int .i64 k, .int .i64 n, v] T) ∧ w0.cell? ⟨W.heap.size, 0, none⟩ = some (.int .i64 a) ∧ w0.cell? ⟨W.heap.size, 1, none⟩ = some (.int .i64 b) ∧ Below W.heap.size W w0 ∧ w0.heap.size = W.heap.size + 1 :=
  ⟨_, rfl, by rw [cell_of_row _ _ _ _ _ _ (heap_alloc_new _ _)]; rfl, by rw [cell_of_row _ _ _ _ _ _ (heap_alloc_new _ _)]; rfl, (Below.refl _ _).alloc (Nat.le_refl _) _, by simp⟩
/-- Block B is the sorter by entry.Cmp. -/
def Srtr (w : World) (B : Nat) : Prop := w.heap[B]? = some (.cells #[.func (.func 37) #[] #[]] 72 (0, 0))
theorem Srtr.lt {w : World} {B : Nat} (h : Srtr w B) : B < w.heap.size := by
  by_cases hl : B < w.heap.size
  · exact hl
  · unfold Srtr at h; rw [Array.getElem?_eq_none (by omega)] at h; cases h
theorem Srtr.below {w w' : World} {B : Nat} (h : Srtr w B) (hb : Below w.heap.size w w') : Srtr w' B := (hb.block B h.lt).trans h
theorem Srtr.but {w w' : World} {B g : Nat} (h : Srtr w B) (hb : But w w' g) (hne : B ≠ g) : Srtr w' B := (hb.heap h.lt hne).trans h
set_option maxRecDepth 100000 in
set_option maxHeartbeats 4000000 in
theorem e_clo (B : Nat) (x y : E5) (W : World) (h : Srtr W B) : Calls Try.prog 47 #[agE x, agE y, .pointer (some ⟨B, 0, none⟩)] W fun e w' => e = .returned (.int .i64 (cmpK x.a x.b y.a y.b)) ∧ Below W.heap.size W w' := by
  obtain ⟨a, b, k, n, v⟩ := x
  obtain ⟨a', b', k', n', v'⟩ := y
  unfold agE
  obtain ⟨w0, hw0, x0, x1, hB0, hs0⟩ := box5e W a b k n v 36
  obtain ⟨w1, hw1, y0, y1, hB1, hs1⟩ := box5e w0 a' b' k' n' v' 36
  have HW1 := Lib.hid (show (W.alloc (.cells #[.int .i64 a, .int .i64 b, .int .i64 k, .int .i64 n, v] 36)).alloc (.cells #[.int .i64 a', .int .i64 b', .int .i64 k', .int .i64 n', v'] 36) = w1 by rw [hw1, hw0])
  have x0 := (hB1.cell (p := ⟨W.heap.size, 0, none⟩) (by show W.heap.size < _; omega)).trans x0
  have x1 := (hB1.cell (p := ⟨W.heap.size, 1, none⟩) (by show W.heap.size < _; omega)).trans x1
  rw [hs0] at y0 y1
  have hB := hB0.trans (hB1.mono hB0.size)
  have z0 : w1.cell? ⟨B, 0, none⟩ = some (.func (.func 37) #[] #[]) := by
    have := h.below hB
    rw [cell_of_row _ _ _ _ _ _ this]; rfl
  have C := e_cmp a b a' b' w1
  clear hw0 hw1 hB0 hB1 hs0 hs1 h
  go_enter Try.func47, Try.ntmps47
  go_upto_region 1 with fail
  rw [HW1.out]
  go_wp2_with fail
  refine C.mono ?_
  rintro e w2 ⟨rfl, hb2⟩
  go_wp2_with fail
  go_ret
  exact ⟨rfl, hB.trans (hb2.mono hB.size)⟩
end Go.Proofs.Ytmbcfijhlpeddaa
