/- Put together by program (merge2.py): Srt Srw. -/
import Derived.Test.YtafmiilkdhdngaaGreatDoorD11
/- Stable sorting in numbers: rows made one (mrg), put in (ins), sorted (isort); symMerge's cut (mrg_split). -/
namespace Go.Proofs.YtafmiilkdhdngaaGreatDoor
open Go.ChangeShapes Go.WideShapes Go.ChangeAt Go.RowKit
set_option linter.unusedVariables false
set_option linter.unusedSimpArgs false
namespace Srt
/-- Orders told by a comparison: 'lt' is asymmetric, and 'not lt' goes on. -/
structure SOrd {α : Type} (lt : α → α → Bool) : Prop where
  asy : ∀ {x y}, lt x y = true → lt y x = false
  neg : ∀ {x y z}, lt y x = false → lt z y = false → lt z x = false
variable {α : Type} {lt : α → α → Bool}
theorem SOrd.irr (O : SOrd lt) (x : α) : lt x x = false := by
  cases h : lt x x with
  | false => rfl
  | true => rw [O.asy h] at h; cases h
/-- x < y and y ≤ z: x < z. -/
theorem SOrd.lt_le (O : SOrd lt) {x y z : α} (h1 : lt x y = true) (h2 : lt z y = false) : lt x z = true := by
  cases h : lt x z with
  | true => rfl
  | false => rw [O.neg h2 h] at h1; cases h1
/-- x ≤ y and y < z: x < z. -/
theorem SOrd.le_lt (O : SOrd lt) {x y z : α} (h1 : lt y x = false) (h2 : lt y z = true) : lt x z = true := by
  cases h : lt x z with
  | true => rfl
  | false => rw [O.neg h h1] at h2; cases h2
/-- In order: none ahead of one that it is less than. -/
def Up (lt : α → α → Bool) (l : List α) : Prop := l.Pairwise (fun x y => lt y x = false)
/-- Put x behind all that are not behind it. -/
def ins (lt : α → α → Bool) (x : α) : List α → List α
  | [] => [x]
  | y :: ys => if lt x y then x :: y :: ys else y :: ins lt x ys
/-- Two rows in order made one: of the right one only what is less. -/
def mrg (lt : α → α → Bool) : List α → List α → List α
  | [], B => B
  | a :: A, [] => a :: A
  | a :: A, b :: B => if lt b a then b :: mrg lt (a :: A) B else a :: mrg lt A (b :: B)
termination_by A B => A.length + B.length
def isort (lt : α → α → Bool) (l : List α) : List α := l.foldl (fun o x => ins lt x o) []

theorem mrg_cons (a b : α) (A B : List α) : mrg lt (a :: A) (b :: B) = if lt b a then b :: mrg lt (a :: A) B else a :: mrg lt A (b :: B) := by rw [mrg]
theorem mrg_nil (A : List α) : mrg lt A [] = A := by cases A <;> simp [mrg]
theorem nil_mrg (B : List α) : mrg lt [] B = B := by simp [mrg]
theorem mem_ins {x z : α} : ∀ {l : List α}, z ∈ ins lt x l → z = x ∨ z ∈ l := by
  intro l
  induction l with
  | nil => intro h; simpa [ins] using h
  | cons y ys ih =>
    intro h
    unfold ins at h
    split at h
    · simpa using h
    · rcases List.mem_cons.1 h with rfl | h
      · exact .inr (List.mem_cons_self ..)
      · rcases ih h with h | h
        · exact .inl h
        · exact .inr (List.mem_cons_of_mem _ h)
theorem ins_up (O : SOrd lt) (x : α) : ∀ {l : List α}, Up lt l → Up lt (ins lt x l) := by
  intro l
  induction l with
  | nil => intro _; simp [ins, Up]
  | cons y ys ih =>
    intro h
    have h' := List.pairwise_cons.1 h
    unfold ins
    split
    · rename_i hl
      refine List.pairwise_cons.2 ⟨fun z hz => ?_, h⟩
      rcases List.mem_cons.1 hz with rfl | hz
      · exact O.asy hl
      · exact O.neg (O.asy hl) (h'.1 z hz)
    · rename_i hl
      refine List.pairwise_cons.2 ⟨fun z hz => ?_, ih h'.2⟩
      rcases mem_ins hz with rfl | hz
      · simpa using hl
      · exact h'.1 z hz
theorem ins_len (x : α) (l : List α) : (ins lt x l).length = l.length + 1 := by
  induction l with
  | nil => rfl
  | cons y ys ih => unfold ins; split <;> simp [ih]
theorem mrg_len : ∀ (A B : List α), (mrg lt A B).length = A.length + B.length
  | [], B => by simp [mrg]
  | a :: A, [] => by simp [mrg]
  | a :: A, b :: B => by
    rw [mrg]
    split
    · rw [List.length_cons, mrg_len (a :: A) B]; simp; omega
    · rw [List.length_cons, mrg_len A (b :: B)]; simp; omega
termination_by A B => A.length + B.length
theorem mem_mrg {z : α} : ∀ {A B : List α}, z ∈ mrg lt A B → z ∈ A ∨ z ∈ B
  | [], B, h => .inr (by simpa [mrg] using h)
  | a :: A, [], h => .inl (by simpa [mrg] using h)
  | a :: A, b :: B, h => by
    rw [mrg] at h
    split at h
    · rcases List.mem_cons.1 h with rfl | h
      · exact .inr (List.mem_cons_self ..)
      · rcases mem_mrg h with h | h
        · exact .inl h
        · exact .inr (List.mem_cons_of_mem _ h)
    · rcases List.mem_cons.1 h with rfl | h
      · exact .inl (List.mem_cons_self ..)
      · rcases mem_mrg h with h | h
        · exact .inl (List.mem_cons_of_mem _ h)
        · exact .inr h
termination_by A B => A.length + B.length
/-- Where two rows are cut so that each left part stays ahead, they may be made one part by part. -/
theorem mrg_split : ∀ {A1 A2 B1 B2 : List α}, (∀ a ∈ A1, ∀ b ∈ B2, lt b a = false) → (∀ a ∈ A2, ∀ b ∈ B1, lt b a = true) →
    mrg lt (A1 ++ A2) (B1 ++ B2) = mrg lt A1 B1 ++ mrg lt A2 B2
  | [], A2, [], B2, _, _ => by simp [mrg]
  | [], A2, b :: B1, B2, h1, h2 => by
    cases A2 with
    | nil => simp [mrg]
    | cons a A2 =>
      rw [List.nil_append, List.cons_append, mrg_cons, if_pos (h2 a (List.mem_cons_self ..) b (List.mem_cons_self ..)), nil_mrg]
      have := mrg_split (A1 := []) (A2 := a :: A2) (B1 := B1) (B2 := B2) (by simp) (fun x hx y hy => h2 x hx y (List.mem_cons_of_mem _ hy))
      rw [List.nil_append, nil_mrg] at this
      rw [this]; rfl
  | a :: A1, A2, [], B2, h1, h2 => by
    cases B2 with
    | nil => simp [mrg_nil]
    | cons b B2 =>
      rw [List.nil_append, List.cons_append, mrg_cons, if_neg (by rw [h1 a (List.mem_cons_self ..) b (List.mem_cons_self ..)]; decide), mrg_nil]
      have := mrg_split (A1 := A1) (A2 := A2) (B1 := []) (B2 := b :: B2) (fun x hx => h1 x (List.mem_cons_of_mem _ hx)) (by simp)
      rw [List.nil_append, mrg_nil] at this
      rw [this]; rfl
  | a :: A1, A2, b :: B1, B2, h1, h2 => by
    rw [List.cons_append, List.cons_append, mrg, mrg]
    split
    · have := mrg_split (A1 := a :: A1) (A2 := A2) (B1 := B1) (B2 := B2) h1 (fun x hx y hy => h2 x hx y (List.mem_cons_of_mem _ hy))
      rw [List.cons_append] at this
      rw [this]; rfl
    · have := mrg_split (A1 := A1) (A2 := A2) (B1 := b :: B1) (B2 := B2) (fun x hx => h1 x (List.mem_cons_of_mem _ hx)) h2
      rw [List.cons_append] at this
      rw [this]; rfl
termination_by A1 _ B1 _ => A1.length + B1.length
/-- An element put into two rows made one: into the right one. -/
theorem ins_mrg (O : SOrd lt) (x : α) : ∀ {A B : List α}, Up lt A → Up lt B → ins lt x (mrg lt A B) = mrg lt A (ins lt x B)
  | [], B, _, _ => by simp [mrg]
  | a :: A, [], hA, _ => by
    have h1 := List.pairwise_cons.1 hA
    rw [mrg_nil, ins, ins, mrg, mrg_nil]
    split
    · rfl
    · have := ins_mrg O x (A := A) (B := []) h1.2 .nil
      rw [mrg_nil, ins] at this
      rw [this]
  | a :: A, b :: B, hA, hB => by
    have h1 := List.pairwise_cons.1 hA
    have h2 := List.pairwise_cons.1 hB
    rw [mrg]
    by_cases hba : lt b a = true
    · rw [if_pos hba, ins, ins]
      by_cases hxb : lt x b = true
      · rw [if_pos hxb, if_pos hxb, mrg, if_pos (O.le_lt (O.asy hxb) hba), mrg, if_pos hba]
      · rw [if_neg hxb, if_neg hxb, mrg, if_pos hba, ins_mrg O x hA h2.2]
    · have hba' : lt b a = false := by simpa using hba
      rw [if_neg hba, ins]
      by_cases hxa : lt x a = true
      · have hxb : lt x b = true := O.lt_le hxa hba'
        rw [if_pos hxa, ins, if_pos hxb, mrg, if_pos hxa, mrg, if_neg hba]
      · rw [if_neg hxa, ins_mrg O x h1.2 hB]
        rw [show mrg lt (a :: A) (ins lt x (b :: B)) = a :: mrg lt A (ins lt x (b :: B)) from ?_]
        rw [ins]
        split
        · rename_i hxb
          rw [mrg, if_neg hxa]
        · rw [mrg, if_neg hba]
termination_by A B => A.length + B.length
theorem fold_up (O : SOrd lt) (l : List α) : ∀ {o : List α}, Up lt o → Up lt (l.foldl (fun o x => ins lt x o) o) := by
  induction l with
  | nil => intro o h; exact h
  | cons x l ih => intro o h; exact ih (ins_up O x h)
theorem isort_up (O : SOrd lt) (l : List α) : Up lt (isort lt l) := fold_up O l .nil
theorem fold_mrg (O : SOrd lt) (l : List α) : ∀ {A o : List α}, Up lt A → Up lt o → l.foldl (fun o x => ins lt x o) (mrg lt A o) = mrg lt A (l.foldl (fun o x => ins lt x o) o) := by
  induction l with
  | nil => intro A o _ _; rfl
  | cons x l ih =>
    intro A o hA ho
    rw [List.foldl_cons, List.foldl_cons, ins_mrg O x hA ho]
    exact ih hA (ins_up O x ho)
/-- Sorted in two parts that are made one then: sorted. -/
theorem isort_app (O : SOrd lt) (A B : List α) : isort lt (A ++ B) = mrg lt (isort lt A) (isort lt B) := by
  have h := fold_mrg O B (isort_up O A) .nil
  rw [mrg_nil] at h
  rw [isort, List.foldl_append]
  exact h
theorem fold_len (l : List α) : ∀ o : List α, (l.foldl (fun o x => ins lt x o) o).length = o.length + l.length := by
  induction l with
  | nil => intro o; rfl
  | cons x l ih => intro o; rw [List.foldl_cons, ih, ins_len, List.length_cons]; omega
theorem isort_len (l : List α) : (isort lt l).length = l.length := by rw [isort, fold_len]; simp
theorem isort_snoc (l : List α) (x : α) : isort lt (l ++ [x]) = ins lt x (isort lt l) := by simp [isort, List.foldl_append]
/-- Where x goes, found from behind: l in order, cut so that x is less than all of the right part, and than none of the left part. -/
theorem ins_cut {x : α} : ∀ {L R : List α}, (∀ y ∈ L, lt x y = false) → (∀ y ∈ R, lt x y = true) → ins lt x (L ++ R) = L ++ x :: R
  | [], [], _, _ => rfl
  | [], y :: R, _, h => by rw [List.nil_append, ins, if_pos (h y (List.mem_cons_self ..))]; rfl
  | y :: L, R, h1, h2 => by
    rw [List.cons_append, ins, if_neg (by rw [h1 y (List.mem_cons_self ..)]; decide), ins_cut (fun z hz => h1 z (List.mem_cons_of_mem _ hz)) h2]; rfl
theorem one_mrg {x : α} : ∀ {L R : List α}, (∀ y ∈ L, lt y x = true) → (∀ y ∈ R, lt y x = false) → mrg lt [x] (L ++ R) = L ++ x :: R
  | [], [], _, _ => by simp [mrg]
  | [], y :: R, _, h => by rw [List.nil_append, mrg, if_neg (by rw [h y (List.mem_cons_self ..)]; decide), nil_mrg]; rfl
  | y :: L, R, h1, h2 => by
    rw [List.cons_append, mrg, if_pos (h1 y (List.mem_cons_self ..)), one_mrg (fun z hz => h1 z (List.mem_cons_of_mem _ hz)) h2]; rfl
theorem mrg_one (x : α) : ∀ (l : List α), mrg lt l [x] = ins lt x l
  | [] => by simp [mrg, ins]
  | y :: l => by
    rw [mrg, ins]
    split
    · rw [mrg_nil]
    · rw [mrg_one x l]
/-- An element less than the last one of a part in order that stands right ahead: .. -/
theorem up_last (O : SOrd lt) {L : List α} {x y : α} (hu : Up lt (L ++ [y])) (h : lt x y = false) : ∀ z ∈ L ++ [y], lt x z = false := fun z hz => by
  rcases List.mem_append.1 hz with hz | hz
  · exact O.neg ((List.pairwise_append.1 hu).2.2 z hz y (by simp)) h
  · rw [List.mem_singleton] at hz; subst hz; exact h
/-- Keys of two ints. -/
def klt (x y : Int × Int) : Bool := decide (x.1 < y.1 ∨ x.1 = y.1 ∧ x.2 < y.2)
theorem klt_ord {β : Type} (key : β → Int × Int)   : SOrd (fun x y : β => klt (key x) (key y)) where
  asy := by intro x y h; unfold klt at *; simp only [decide_eq_true_eq, decide_eq_false_iff_not] at *; omega
  neg := by intro x y z h1 h2; unfold klt at *; simp only [decide_eq_false_iff_not] at *; omega
end Srt
end Go.Proofs.YtafmiilkdhdngaaGreatDoor
/- Rows of structs of five cells that are sorted in place: their cells, one set, two swapped. -/
namespace Go.Proofs.YtafmiilkdhdngaaGreatDoor
open Go.ChangeShapes Go.WideShapes Go.ChangeAt Go.RowKit
set_option linter.unusedVariables false
set_option linter.unusedSimpArgs false
/-- A struct of five cells: four ints and a value. -/
structure E5 where
  a : Int
  b : Int
  k : Int
  n : Int
  v : Value
def cE (e : E5) : List Value := [.int .i64 e.a, .int .i64 e.b, .int .i64 e.k, .int .i64 e.n, e.v]
def agE (e : E5) : Value := .agg #[.int .i64 e.a, .int .i64 e.b, .int .i64 e.k, .int .i64 e.n, e.v]
def cL (l : List E5) : List Value := l.flatMap cE
theorem cL_cons (e : E5) (l : List E5) : cL (e :: l) = .int .i64 e.a :: .int .i64 e.b :: .int .i64 e.k :: .int .i64 e.n :: e.v :: cL l := rfl
theorem cL_len (l : List E5) : (cL l).length = l.length * 5 := by
  induction l with
  | nil => rfl
  | cons e l ih => rw [cL_cons]; simp only [List.length_cons, ih]; omega
theorem cL_at : ∀ {l : List E5} {i : Nat} {e : E5}, l[i]? = some e → (cL l)[i * 5]? = some (.int .i64 e.a) ∧ (cL l)[i * 5 + 1]? = some (.int .i64 e.b) ∧ (cL l)[i * 5 + 2]? = some (.int .i64 e.k) ∧ (cL l)[i * 5 + 3]? = some (.int .i64 e.n) ∧ (cL l)[i * 5 + 4]? = some e.v
  | [], _, _, h => by simp at h
  | x :: l, 0, e, h => by
    simp at h; subst h
    exact ⟨rfl, rfl, rfl, rfl, rfl⟩
  | x :: l, i + 1, e, h => by
    have h' : l[i]? = some e := by simpa using h
    have ih := cL_at h'
    rw [show (i + 1) * 5 = i * 5 + 5 by omega, cL_cons]
    rw [show i * 5 + 5 + 1 = i * 5 + 1 + 5 by omega, show i * 5 + 5 + 2 = i * 5 + 2 + 5 by omega, show i * 5 + 5 + 3 = i * 5 + 3 + 5 by omega, show i * 5 + 5 + 4 = i * 5 + 4 + 5 by omega]
    simpa using ih
def set5 (l : List Value) (o : Nat) (e : E5) : List Value := ((((l.set o (.int .i64 e.a)).set (o + 1) (.int .i64 e.b)).set (o + 2) (.int .i64 e.k)).set (o + 3) (.int .i64 e.n)).set (o + 4) e.v
theorem cL_set : ∀ (l : List E5) (i : Nat) (e : E5), set5 (cL l) (i * 5) e = cL (l.set i e)
  | [], i, e => by simp [set5, cL]
  | x :: l, 0, e => by rw [cL_cons]; rfl
  | x :: l, i + 1, e => by
    have ih := cL_set l i e
    rw [List.set_cons_succ, cL_cons, cL_cons, ← ih]
    unfold set5
    rw [show (i + 1) * 5 = i * 5 + 5 by omega, show i * 5 + 5 + 1 = i * 5 + 1 + 5 by omega, show i * 5 + 5 + 2 = i * 5 + 2 + 5 by omega, show i * 5 + 5 + 3 = i * 5 + 3 + 5 by omega, show i * 5 + 5 + 4 = i * 5 + 4 + 5 by omega]
    simp
/-- Block g is such a row. -/
def RowE (w : World) (g : Nat) (T : TypeId) (l : List E5) : Prop := w.heap[g]? = some (.cells (cL l).toArray T (0, 0))
theorem RowE.lt {w : World} {g : Nat} {T : TypeId} {l : List E5} (h : RowE w g T l) : g < w.heap.size := by
  by_cases hl : g < w.heap.size
  · exact hl
  · unfold RowE at h; rw [Array.getElem?_eq_none (by omega)] at h; cases h
theorem RowE.cells {w : World} {g : Nat} {T : TypeId} {l : List E5} (h : RowE w g T l) {i : Nat} {e : E5} (hi : l[i]? = some e) :
    w.cell? ⟨g, i * 5, none⟩ = some (.int .i64 e.a) ∧ w.cell? ⟨g, i * 5 + 1, none⟩ = some (.int .i64 e.b) ∧ w.cell? ⟨g, i * 5 + 2, none⟩ = some (.int .i64 e.k) ∧ w.cell? ⟨g, i * 5 + 3, none⟩ = some (.int .i64 e.n) ∧ w.cell? ⟨g, i * 5 + 4, none⟩ = some e.v := by
  obtain ⟨h0, h1, h2, h3, h4⟩ := cL_at hi
  unfold RowE at h
  refine ⟨?_, ?_, ?_, ?_, ?_⟩ <;> (rw [cell_of_row _ _ _ _ _ _ h]; simpa using by assumption)
theorem RowE.free {w : World} {g : Nat} {T : TypeId} {l : List E5} (h : RowE w g T l) (o : Nat) : w.frozen? ⟨g, o, none⟩ = false := frozen_of_row _ _ _ _ _ h
theorem RowE.below {w w' : World} {g : Nat} {T : TypeId} {l : List E5} (h : RowE w g T l) (hb : Below w.heap.size w w') : RowE w' g T l := (hb.block g h.lt).trans h
def s5o (w : World) (b o : Nat) (e : E5) : World := ((((w.setCell ⟨b, o, none⟩ (.int .i64 e.a)).setCell ⟨b, o + 1, none⟩ (.int .i64 e.b)).setCell ⟨b, o + 2, none⟩ (.int .i64 e.k)).setCell ⟨b, o + 3, none⟩ (.int .i64 e.n)).setCell ⟨b, o + 4, none⟩ e.v
theorem row_put {w : World} {g o : Nat} {cs : Array Value} {T : TypeId} {fr : Nat × Nat} (h : w.heap[g]? = some (.cells cs T fr)) (v : Value) : (w.setCell ⟨g, o, none⟩ v).heap[g]? = some (.cells (cs.setIfInBounds o v) T fr) := by
  simp [World.setCell, Array.getElem?_modify, h]
theorem RowE.set {w : World} {g : Nat} {T : TypeId} {l : List E5} (h : RowE w g T l) (i : Nat) (e : E5) : RowE (s5o w g (i * 5) e) g T (l.set i e) := by
  unfold RowE at *
  unfold s5o
  have k := row_put (row_put (row_put (row_put (row_put h (o := i * 5) (.int .i64 e.a)) (o := i * 5 + 1) (.int .i64 e.b)) (o := i * 5 + 2) (.int .i64 e.k)) (o := i * 5 + 3) (.int .i64 e.n)) (o := i * 5 + 4) e.v
  rw [k, ← cL_set]
  simp [set5]
theorem s5o_but (w : World) (b o : Nat) (e : E5) : But w (s5o w b o e) b := ((((But.set _ _ _ _).trans (But.set _ _ _ _)).trans (But.set _ _ _ _)).trans (But.set _ _ _ _)).trans (But.set _ _ _ _)
/-- Two that stand side by side, swapped. -/
theorem set_swap {α : Type} (P R : List α) (x y : α) : ((P ++ y :: x :: R).set P.length x).set (P.length + 1) y = P ++ x :: y :: R := by
  induction P with
  | nil => rfl
  | cons p P ih => simp
theorem set_swap' {α : Type} (P R : List α) (x y : α) : ((P ++ y :: x :: R).set (P.length + 1) y).set P.length x = P ++ x :: y :: R := by
  induction P with
  | nil => rfl
  | cons p P ih => simp
end Go.Proofs.YtafmiilkdhdngaaGreatDoor
