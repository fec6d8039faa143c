/- Names of tables: what a node names, and what all below it name; package need's named. -/
import Derived.Test.YticljddfdeocbaaD11
namespace Go.Proofs.Yticljddfdeocbaa
open Go.ChangeShapes Go.WideShapes Go.ChangeAt Go.RowKit
set_option linter.unusedVariables false
/-- A name: its kind, its two sizes, its direction. -/
structure Nam where
  k : Int
  n : Int
  m : Int
  d : Int
theorem Nam.eq_iff (a b : Nam) : a = b ↔ a.k = b.k ∧ a.n = b.n ∧ a.m = b.m ∧ a.d = b.d := by
  obtain ⟨k, n, m, d⟩ := a
  obtain ⟨k', n', m', d'⟩ := b
  simp
instance : DecidableEq Nam := fun a b => decidable_of_iff _ (Nam.eq_iff a b).symm
def Nam.val (x : Nam) : Value := .agg #[.int .i64 x.k, .int .i64 x.n, .int .i64 x.m, .int .i64 x.d]
def Nam.cells (x : Nam) : List Value := [.int .i64 x.k, .int .i64 x.n, .int .i64 x.m, .int .i64 x.d]
/-- What a node itself names. -/
def namedL (k n dir a : Int) : List Nam := if k = 1 ∨ k = 3 ∨ k = 4 then [⟨1, n, 0, dir⟩] else if k = 6 then [⟨3, n, 0, dir⟩] else if k = 7 then [⟨2, n, 0, dir⟩, ⟨4, n, a, dir⟩] else []
/-- The direction of what is below. -/
def under (k dir : Int) : Int := if k = 6 ∨ k = 7 then 0 else dir
/-- What the trees of a row name, a node ahead of those below it. -/
def Fo.names : Fo → Int → List Nam
  | .nil, _ => []
  | .cons k n ks r, dir => namedL k n dir (ks.n 0) ++ ks.names (under k dir) ++ r.names dir
/-- The same of one tree. -/
def namesN (k n : Int) (ks : Fo) (dir : Int) : List Nam := namedL k n dir (ks.n 0) ++ ks.names (under k dir)
theorem names_step (f : Fo) (i : Nat) (dir : Int) (h : i < f.len) : (f.drop i).names dir = namesN (f.k i) (f.n i) (f.kids i) dir ++ (f.drop (i + 1)).names dir := by
  rw [Fo.drop_at f i h, Fo.names, namesN]
theorem names_end (f : Fo) (dir : Int) : (f.drop f.len).names dir = [] := by rw [Fo.drop_len, Fo.names]
theorem named_len (k n dir a : Int) : (namedL k n dir a).length ≤ 2 := by unfold namedL; split <;> (try split) <;> (try split) <;> simp
theorem names_len : ∀ (f : Fo) (dir : Int), (f.names dir).length ≤ 2 * f.cnt
  | .nil, _ => by simp [Fo.names]
  | .cons k n ks r, dir => by
    have h1 := names_len ks (under k dir)
    have h2 := names_len r dir
    have h3 := named_len k n dir (ks.n 0)
    simp only [Fo.names, Fo.cnt, List.length_append]
    omega
/-- A slice's elements, as they are read: names. -/
def NRow (w : World) (lim : Nat) (a : Option Addr) (l : List Nam) : Prop := l = [] ∨ ∃ b o, a = some ⟨b, o, none⟩ ∧ b < lim ∧ ∀ i (hi : i < l.length), w.cell? ⟨b, o + i * 4, none⟩ = some (.int .i64 l[i].k) ∧ w.cell? ⟨b, o + i * 4 + 1, none⟩ = some (.int .i64 l[i].n) ∧ w.cell? ⟨b, o + i * 4 + 2, none⟩ = some (.int .i64 l[i].m) ∧ w.cell? ⟨b, o + i * 4 + 3, none⟩ = some (.int .i64 l[i].d)
theorem NRow.carry {w w' : World} {lim : Nat} {a : Option Addr} {l : List Nam} (h : NRow w lim a l) (hb : Below lim w w') : NRow w' lim a l := by
  rcases h with h | ⟨b, o, e, hlt, hc⟩
  · exact .inl h
  · refine .inr ⟨b, o, e, hlt, fun i hi => ?_⟩
    obtain ⟨h0, h1, h2, h3⟩ := hc i hi
    exact ⟨(hb.cell (p := ⟨b, _, none⟩) hlt).trans h0, (hb.cell (p := ⟨b, _, none⟩) hlt).trans h1, (hb.cell (p := ⟨b, _, none⟩) hlt).trans h2, (hb.cell (p := ⟨b, _, none⟩) hlt).trans h3⟩
theorem NRow.nought (w : World) (lim : Nat) (a : Option Addr) : NRow w lim a [] := .inl rfl
theorem NRow.get {w : World} {lim : Nat} {a : Option Addr} {l : List Nam} (h : NRow w lim a l) {i : Nat} (hi : i < l.length) : ∃ b o, a = some ⟨b, o, none⟩ ∧ b < lim ∧ w.cell? ⟨b, o + i * 4, none⟩ = some (.int .i64 l[i].k) ∧ w.cell? ⟨b, o + i * 4 + 1, none⟩ = some (.int .i64 l[i].n) ∧ w.cell? ⟨b, o + i * 4 + 2, none⟩ = some (.int .i64 l[i].m) ∧ w.cell? ⟨b, o + i * 4 + 3, none⟩ = some (.int .i64 l[i].d) := by
  rcases h with h | ⟨b, o, e, hlt, hc⟩
  · rw [h] at hi; simp at hi
  · exact ⟨b, o, e, hlt, hc i hi⟩
/-- The answer is a slice of names; nothing that was there has turned. -/
def GivesN (w : World) (l : List Nam) (e : Ending) (w' : World) : Prop := ∃ a c, e = .returned (.slice a l.length c) ∧ NRow w' w'.heap.size a l ∧ (∀ x, a = some x → w.heap.size ≤ x.block) ∧ Below w.heap.size w w'
theorem NRow.of1 {w : World} {g : Nat} {a b c d : Int} {T : TypeId} (h : w.heap[g]? = some (.cells #[.int .i64 a, .int .i64 b, .int .i64 c, .int .i64 d] T (0, 0))) : NRow w w.heap.size (some ⟨g, 0, none⟩) [⟨a, b, c, d⟩] := by
  have hg : g < w.heap.size := Nat.lt_of_not_le fun hn => by rw [Array.getElem?_eq_none hn] at h; cases h
  refine .inr ⟨g, 0, rfl, hg, fun i hi => ?_⟩
  obtain rfl : i = 0 := by simp at hi; omega
  refine ⟨?_, ?_, ?_, ?_⟩ <;> (rw [cell_of_row _ _ _ _ _ _ h]; rfl)
theorem NRow.of2 {w : World} {g : Nat} {a b c d a' b' c' d' : Int} {T : TypeId} (h : w.heap[g]? = some (.cells #[.int .i64 a, .int .i64 b, .int .i64 c, .int .i64 d, .int .i64 a', .int .i64 b', .int .i64 c', .int .i64 d'] T (0, 0))) : NRow w w.heap.size (some ⟨g, 0, none⟩) [⟨a, b, c, d⟩, ⟨a', b', c', d'⟩] := by
  have hg : g < w.heap.size := Nat.lt_of_not_le fun hn => by rw [Array.getElem?_eq_none hn] at h; cases h
  refine .inr ⟨g, 0, rfl, hg, fun i hi => ?_⟩
  have : i = 0 ∨ i = 1 := by simp at hi; omega
  rcases this with rfl | rfl <;> refine ⟨?_, ?_, ?_, ?_⟩ <;> (rw [cell_of_row _ _ _ _ _ _ h]; rfl)
set_option maxRecDepth 100000 in
set_option maxHeartbeats 2000000 in
theorem need_named (k n dir : Int) (v : Value) (ks : Fo) (lim : Nat) (W : World) (hK : Kids W lim v ks) (hl : lim ≤ W.heap.size) (h7 : k = 7 → 0 < ks.len) :
    Calls Try.prog 95 #[.agg #[.int .i64 k, .int .i64 n, v], .int .i64 dir] W (GivesN W (namedL k n dir (ks.n 0))) := by
  obtain ⟨p, m, c, rfl, hc1, hc2, HM⟩ := hK.shape
  obtain ⟨w0, hw0, c0, c1, c2, hB, hsz⟩ := box3 W k n (.slice p m c) 24
  by_cases h1 : k = 1 ∨ k = 3 ∨ k = 4
  · have E := Lib.hid (show namedL k n dir (ks.n 0) = [⟨1, n, 0, dir⟩] from if_pos h1)
    have hn := heap_alloc_new w0 (.cells #[.int .i64 1, .int .i64 n, .int .i64 0, .int .i64 dir] 54)
    have HB := Lib.hid (hB.alloc hB.size (.cells #[.int .i64 1, .int .i64 n, .int .i64 0, .int .i64 dir] 54))
    have HN := Lib.hid (NRow.of1 hn)
    rw [hsz] at HN
    clear hn hB hK
    subst hw0
    rcases h1 with rfl | rfl | rfl
    all_goals
      go_enter Try.func95, Try.ntmps95
      go_wp2_with fail
      go_ret
      exact ⟨_, _, by rw [E.out]; rfl, by rw [E.out]; exact HN.out, (fun x hx => by cases hx; exact Nat.le_succ _), HB.out⟩
  by_cases h2 : k = 6
  · subst h2
    have E := Lib.hid (show namedL 6 n dir (ks.n 0) = [⟨3, n, 0, dir⟩] from rfl)
    have hn := heap_alloc_new w0 (.cells #[.int .i64 3, .int .i64 n, .int .i64 0, .int .i64 dir] 54)
    have HB := Lib.hid (hB.alloc hB.size (.cells #[.int .i64 3, .int .i64 n, .int .i64 0, .int .i64 dir] 54))
    have HN := Lib.hid (NRow.of1 hn)
    rw [hsz] at HN
    clear hn hB hK
    subst hw0
    go_enter Try.func95, Try.ntmps95
    go_wp2_with fail
    go_ret
    exact ⟨_, _, by rw [E.out]; rfl, by rw [E.out]; exact HN.out, (fun x hx => by cases hx; exact Nat.le_succ _), HB.out⟩
  by_cases h3 : k = 7
  · subst h3
    have hm : 0 < m := by rw [HM.out]; exact h7 rfl
    obtain ⟨b, o, rfl, hb, hk0⟩ := hK.size hm
    have k0 : w0.cell? ⟨b, o + 1, none⟩ = some (.int .i64 (ks.n 0)) := by simpa using (hB.cell (p := ⟨b, _, none⟩) (by show b < W.heap.size; omega)).trans hk0
    have E := Lib.hid (show namedL 7 n dir (ks.n 0) = [⟨2, n, 0, dir⟩, ⟨4, n, ks.n 0, dir⟩] from rfl)
    generalize ks.n 0 = A at *
    clear hK hk0 h7
    go_enter Try.func95, Try.ntmps95
    go_wp2_with fail
    rw [← hw0]
    clear hw0
    have dm : decide (0 < m) = true := decide_eq_true hm
    have xw : W.heap.size < w0.heap.size := by omega
    have KA := Lib.hid (fun (w' : World) (hS : w'.cell? ⟨W.heap.size, 0, none⟩ = some (.int .i64 7) ∧ w'.cell? ⟨W.heap.size, 1, none⟩ = some (.int .i64 n) ∧ w'.cell? ⟨W.heap.size, 2, none⟩ = some (.slice (some ⟨b, o, none⟩) m c) ∧ w'.cell? ⟨b, o + 1, none⟩ = some (.int .i64 A) ∧ Below w0.heap.size w0 w') (ob : Obj) => (show (w'.alloc ob).cell? ⟨W.heap.size, 0, none⟩ = some (.int .i64 7) ∧ (w'.alloc ob).cell? ⟨W.heap.size, 1, none⟩ = some (.int .i64 n) ∧ (w'.alloc ob).cell? ⟨W.heap.size, 2, none⟩ = some (.slice (some ⟨b, o, none⟩) m c) ∧ (w'.alloc ob).cell? ⟨b, o + 1, none⟩ = some (.int .i64 A) ∧ Below w0.heap.size w0 (w'.alloc ob) from by
      have hb := (Below.refl w'.heap.size w').alloc (Nat.le_refl _) ob
      have hz := hS.2.2.2.2.size
      exact ⟨(hb.cell (p := ⟨W.heap.size, 0, none⟩) (by show W.heap.size < _; omega)).trans hS.1, (hb.cell (p := ⟨W.heap.size, 1, none⟩) (by show W.heap.size < _; omega)).trans hS.2.1, (hb.cell (p := ⟨W.heap.size, 2, none⟩) (by show W.heap.size < _; omega)).trans hS.2.2.1, (hb.cell (p := ⟨b, o + 1, none⟩) (by show b < _; omega)).trans hS.2.2.2.1, hS.2.2.2.2.trans (hb.mono hz)⟩))
    have HQ := Lib.hid (fun (w1 : World) (hb1 : Below w0.heap.size w0 w1) => (show NRow (w1.alloc (.cells #[.int .i64 2, .int .i64 n, .int .i64 0, .int .i64 dir, .int .i64 4, .int .i64 n, .int .i64 A, .int .i64 dir] 54)) (w1.alloc (.cells #[.int .i64 2, .int .i64 n, .int .i64 0, .int .i64 dir, .int .i64 4, .int .i64 n, .int .i64 A, .int .i64 dir] 54)).heap.size (some ⟨w1.heap.size, 0, none⟩) [⟨2, n, 0, dir⟩, ⟨4, n, A, dir⟩] ∧ Below W.heap.size W (w1.alloc (.cells #[.int .i64 2, .int .i64 n, .int .i64 0, .int .i64 dir, .int .i64 4, .int .i64 n, .int .i64 A, .int .i64 dir] 54)) from ⟨NRow.of2 (heap_alloc_new w1 _), hB.trans ((hb1.alloc hb1.size _).mono hB.size)⟩))
    have R0 := (Below.refl w0.heap.size w0).drew
    go_region_held3 (fun w' => w'.cell? ⟨W.heap.size, 0, none⟩ = some (.int .i64 7) ∧ w'.cell? ⟨W.heap.size, 1, none⟩ = some (.int .i64 n) ∧ w'.cell? ⟨W.heap.size, 2, none⟩ = some (.slice (some ⟨b, o, none⟩) m c) ∧ w'.cell? ⟨b, o + 1, none⟩ = some (.int .i64 A) ∧ Below w0.heap.size w0 w') (first | exact ⟨c0, c1, c2, k0, R0⟩ | assumption | exact KA.out _ (by assumption) _) (fail)
    obtain ⟨q1, q2⟩ := HQ.out w0 (Below.refl _ _)
    rw [hsz] at q1
    have HQ1 := Lib.hid q1
    have HQ2 := Lib.hid q2
    clear q1 q2 KA HQ R0
    go_wp2_with fail
    go_ret
    exact ⟨_, _, by rw [E.out]; rfl, by rw [E.out]; exact HQ1.out, (fun x hx => by cases hx; exact Nat.le_succ _), HQ2.out.drew⟩
  · have E := Lib.hid (show namedL k n dir (ks.n 0) = [] by unfold namedL; rw [if_neg h1, if_neg h2, if_neg h3])
    have e1 : (k == 1) = false := by simp; omega
    have e3 : (k == 3) = false := by simp; omega
    have e4 : (k == 4) = false := by simp; omega
    have e6 : (k == 6) = false := by simp; omega
    have e7 : (k == 7) = false := by simp; omega
    go_enter Try.func95, Try.ntmps95
    go_wp2_with fail
    rw [← hw0]
    go_ret
    exact ⟨_, _, by rw [E.out]; rfl, by rw [E.out]; exact NRow.nought _ _ _, (fun x hx => by cases hx), hB⟩
end Go.Proofs.Yticljddfdeocbaa
