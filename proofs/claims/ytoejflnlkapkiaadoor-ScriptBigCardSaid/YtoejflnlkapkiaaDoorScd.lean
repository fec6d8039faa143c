/- Package script: a script in memory; its text. -/
import Derived.Test.YtoejflnlkapkiaaDoorScc
namespace Go.Proofs.YtoejflnlkapkiaaDoor
open Go.ChangeShapes Go.WideShapes Go.ChangeAt Go.RowKit
set_option linter.unusedVariables false
set_option linter.unusedSimpArgs false
def ClAt (w : World) (b o : Nat) (c : Cl) : Prop := c.ok ∧ w.cell? ⟨b, o, none⟩ = some (.int .i64 c.kd) ∧ w.cell? ⟨b, o + 1, none⟩ = some (.int .i64 c.n) ∧ w.cell? ⟨b, o + 2, none⟩ = some (.int .i64 c.dir) ∧ w.cell? ⟨b, o + 3, none⟩ = some (.string c.s)
  ∧ w.cell? ⟨b, o + 4, none⟩ = some (.int .i64 c.who) ∧ w.cell? ⟨b, o + 5, none⟩ = some (.int .i64 c.at') ∧ ∃ v, w.cell? ⟨b, o + 6, none⟩ = some v ∧ RowX w v c.xs
theorem ClAt.below {w w' : World} {b o : Nat} {c : Cl} (h : ClAt w b o c) (hb : Below w.heap.size w w') (hl : b < w.heap.size) : ClAt w' b o c := by
  obtain ⟨h0, h1, h2, h3, h4, h5, h6, v, h7, h8⟩ := h
  exact ⟨h0, (hb.cell (p := ⟨b, o, none⟩) hl).trans h1, (hb.cell (p := ⟨b, o + 1, none⟩) hl).trans h2, (hb.cell (p := ⟨b, o + 2, none⟩) hl).trans h3, (hb.cell (p := ⟨b, o + 3, none⟩) hl).trans h4, (hb.cell (p := ⟨b, o + 4, none⟩) hl).trans h5, (hb.cell (p := ⟨b, o + 5, none⟩) hl).trans h6, v, (hb.cell (p := ⟨b, o + 6, none⟩) hl).trans h7, h8.below hb⟩
/-- A row of calls. -/
def RowC (w : World) (v : Value) (l : List Cl) : Prop := ∃ p c, v = .slice p l.length c ∧ (l = [] ∨ ∃ b o, p = some ⟨b, o, none⟩ ∧ b < w.heap.size ∧ ∀ (j : Nat) x, l[j]? = some x → ClAt w b (o + j * 7) x)
theorem RowC.below {w w' : World} {v : Value} {l : List Cl} (h : RowC w v l) (hb : Below w.heap.size w w') : RowC w' v l := by
  obtain ⟨p, c, rfl, h⟩ := h
  refine ⟨p, c, rfl, ?_⟩
  rcases h with h | ⟨b, o, hp, hl, h⟩
  · exact .inl h
  · exact .inr ⟨b, o, hp, Nat.lt_of_lt_of_le hl hb.size, fun j x hj => (h j x hj).below hb hl⟩
/-- A row of rows of calls. -/
def RowCC (w : World) (v : Value) (cs : List (List Cl)) : Prop := ∃ p c, v = .slice p cs.length c ∧ (cs = [] ∨ ∃ b o, p = some ⟨b, o, none⟩ ∧ b < w.heap.size ∧ ∀ (j : Nat) l, cs[j]? = some l → ∃ u, w.cell? ⟨b, o + j, none⟩ = some u ∧ RowC w u l)
theorem RowCC.below {w w' : World} {v : Value} {cs : List (List Cl)} (h : RowCC w v cs) (hb : Below w.heap.size w w') : RowCC w' v cs := by
  obtain ⟨p, c, rfl, h⟩ := h
  refine ⟨p, c, rfl, ?_⟩
  rcases h with h | ⟨b, o, hp, hl, h⟩
  · exact .inl h
  · refine .inr ⟨b, o, hp, Nat.lt_of_lt_of_le hl hb.size, fun j l hj => ?_⟩
    obtain ⟨u, h1, h2⟩ := h j l hj
    exact ⟨u, (hb.cell (p := ⟨b, o + j, none⟩) hl).trans h1, h2.below hb⟩
/-- Words and lines. -/
def wsL (f : ByteArray) (xs : List Int) : List ByteArray := f :: xs.map itS
theorem wsL_val (f : ByteArray) (xs : List Int) : (wsL f xs).map (Value.string ·) = wsI f xs := by unfold wsL wsI; simp
theorem wsL_len (f : ByteArray) (xs : List Int) : (wsL f xs).length = xs.length + 1 := by unfold wsL; simp
def hexD (n : Nat) : UInt8 := if n < 10 then UInt8.ofNat (48 + n) else UInt8.ofNat (87 + n)
def hexB (s : ByteArray) : List UInt8 := (s.data.toList.map fun b => [hexD (b.toNat / 16), hexD (b.toNat % 16)]).flatten
def udS (x : Int) : ByteArray := ⟨(Lib.decDigits x.toNat).toArray⟩
/-- The words of a call. -/
def wsC (c : Cl) : List ByteArray :=
  if c.kd = 1 ∨ c.kd = 2 ∨ c.kd = 3 then wsL (wdK c.kd) [c.n, c.dir]
  else if c.kd = 4 then (if c.s.data.toList = [] then [wdK c.kd] else [wdK c.kd, ⟨(hexB c.s).toArray⟩])
  else if c.kd = 6 then wsL (wdK c.kd) [c.who, c.at'] ++ c.xs.map udS
  else if c.kd = 7 then wsL (wdK c.kd) [c.who, c.at']
  else [wdK c.kd]
theorem wsC_pos (c : Cl) : 0 < (wsC c).length := by
  unfold wsC
  repeat' split
  all_goals simp [wsL]
def cliB : ByteArray := ⟨#[99, 108, 105, 101, 110, 116]⟩
def callsT (l : List Cl) : List UInt8 := (l.map fun c => lineB (wsC c)).flatten
def cliT (l : List Cl) : List UInt8 := lineB [cliB] ++ callsT l
def headT (st rm : Int) (ps ts : List Int) : List UInt8 := lineB (wsL ⟨#[112, 108, 97, 121]⟩ [st, rm]) ++ lineB (wsL ⟨#[112, 105, 99, 107, 115]⟩ ps) ++ lineB (wsL ⟨#[116, 105, 99, 107, 115]⟩ ts)
def scT (st rm : Int) (ps ts : List Int) (cs : List (List Cl)) : List UInt8 := headT st rm ps ts ++ (cs.map cliT).flatten
theorem callsT_step {l : List Cl} {k : Nat} {c : Cl} (h : l[k]? = some c) : callsT (l.take (k + 1)) = callsT (l.take k) ++ lineB (wsC c) := by
  unfold callsT; rw [List.take_add_one, h]; simp
theorem cliT_step {cs : List (List Cl)} {k : Nat} {l : List Cl} (h : cs[k]? = some l) : ((cs.take (k + 1)).map cliT).flatten = ((cs.take k).map cliT).flatten ++ cliT l := by
  rw [List.take_add_one, h]; simp
/-- All that is written is no longer than the whole. -/
theorem cliT_le {cs : List (List Cl)} {k : Nat} {l : List Cl} (h : cs[k]? = some l) : ((cs.take k).map cliT).flatten.length + (cliT l).length ≤ (cs.map cliT).flatten.length := by
  have e : cs = cs.take k ++ l :: cs.drop (k + 1) := by
    have h2 := List.getElem?_eq_some_iff.1 h
    rw [← h2.2, List.getElem_cons_drop, List.take_append_drop]
  have : (cs.map cliT).flatten = ((cs.take k).map cliT).flatten ++ (cliT l ++ ((cs.drop (k + 1)).map cliT).flatten) := by
    conv => lhs; rw [e]
    simp
  rw [this]; simp
theorem callsT_le {l : List Cl} {k : Nat} {c : Cl} (h : l[k]? = some c) : (callsT (l.take k)).length + (lineB (wsC c)).length ≤ (callsT l).length := by
  have e : l = l.take k ++ c :: l.drop (k + 1) := by
    have h2 := List.getElem?_eq_some_iff.1 h
    rw [← h2.2, List.getElem_cons_drop, List.take_append_drop]
  have : callsT l = callsT (l.take k) ++ (lineB (wsC c) ++ callsT (l.drop (k + 1))) := by
    conv => lhs; rw [e]
    unfold callsT; simp
  rw [this]; simp
theorem sc_str_nil (s : ByteArray) : s.toList.isEmpty = decide (s.data.toList = []) := by
  rw [Lib.toList_data]
  cases s.data.toList with
  | nil => rfl
  | cons a l => rfl
theorem sc_no_nil {s : ByteArray} (h : s.data.toList ≠ []) : s.toList.isEmpty = false := by rw [sc_str_nil]; exact decide_eq_false h
theorem join_ge : ∀ (l : List (List UInt8)), l.length ≤ (Lib.join l [32]).length + 1
  | [] => by simp
  | [x] => by simp
  | x :: y :: r => by
    have ih := join_ge (y :: r)
    have e : Lib.join (x :: y :: r) [32] = x ++ ([32] ++ Lib.join (y :: r) [32]) := by simp [Lib.join, List.intercalate]
    rw [e]; simp only [List.length_append, List.length_cons, List.length_nil] at ih ⊢; omega
theorem line_ge (ws : List ByteArray) : ws.length ≤ (lineB ws).length := by
  have h := join_ge (ws.map (·.data.toList))
  unfold lineB; rw [List.length_append]; simp only [List.length_map, List.length_cons, List.length_nil] at h ⊢; omega
theorem bat_mono {T e : TypeId} {B B' b : Nat} {p : Value} {bs : List Value} {w : World} (h : Lib.BuilderAt T e B b p bs w) (hB : B' ≤ B) : Lib.BuilderAt T e B' b p bs w := by
  obtain ⟨h1, v, hbk, hown, hne⟩ := h
  exact ⟨Nat.le_trans hB h1, v, hbk, hown.mono hB, hne⟩
theorem isb_mono {T e : TypeId} {B B' b : Nat} {bs : List Value} {w : World} (h : Lib.IsBuilder T e B b bs w) (hB : B' ≤ B) : Lib.IsBuilder T e B' b bs w := by
  rcases h with h | h
  · exact .inl (bat_mono h hB)
  · exact .inr (bat_mono h hB)
theorem own_made2 {w : World} {B : Nat} {v : Value} {n : Nat} {f : ByteArray} {xs : List Int} (h : w.ownsRow B 9 1 v n (wsI f xs)) : w.ownsRow B 9 1 v n ((wsL f xs).map (Value.string ·)) := by rw [wsL_val]; exact h
end Go.Proofs.YtoejflnlkapkiaaDoor
