/- Put together by program (merge.py): Chk14 Bulk. -/
import Derived.Test.YtofgkhoemgimeaaD4
import Derived.Test.YtofgkhoemgimeaaD8
/- Reference 13's Much and Depth; reference 14's Check. -/
namespace Go.Proofs.Ytofgkhoemgimeaa
open Go.ChangeShapes Go.WideShapes Go.ChangeAt Go.RowKit
set_option linter.unusedVariables false
set_option maxRecDepth 100000 in
theorem r13_much (ks : Fo) (v : Value) (k n : Int) (lim : Nat) (W : World) (hN : ks.cnt ≤ 1048576) (hK : Kids W lim v ks) (hl : lim ≤ W.heap.size) :
    Calls Try.prog 24 #[.agg #[.int .i64 k, .int .i64 n, v]] W fun e w' => e = .returned (.bool (decide (80 < ks.cnt + 1))) ∧ Below W.heap.size W w' := by
  have RL := Lib.hid (fun W h1 h2 => r13_list 1048576 ks v k n lim W hN (by omega) h1 h2)
  obtain ⟨p, m, c, rfl, hc1, hc2, HM⟩ := hK.shape
  obtain ⟨w0, hw0, c0, c1, c2, hB, hsz⟩ := box3 W k n (.slice p m c) 37
  have hK0 := hK.below hl hB
  have HL := Lib.hid (show (Nd.mk k n ks :: ks.pre).length = ks.cnt + 1 by simp [Fo.pre_len])
  generalize Nd.mk k n ks :: ks.pre = L at *
  have DZ := Lib.hid (show decide ((80 : Int) < ((ks.cnt + 1 : Nat) : Int)) = decide (80 < ks.cnt + 1) from decide_eq_decide.2 (by omega))
  generalize decide (80 < ks.cnt + 1) = z at *
  generalize ks.cnt + 1 = q at *
  go_enter Try.func24, Try.ntmps24
  go_wp2_with fail
  rw [← hw0]
  clear hw0
  refine (RL.out _ hK0 (by omega)).mono ?_
  rintro e w1 ⟨v1, rfl, hO, b1⟩
  obtain ⟨a, c', rfl, _⟩ := hO.shape
  rw [HL.out]
  clear hO
  go_wp2_with fail
  go_ret
  exact ⟨ret_bool (by first | exact DZ.out | (rw [← DZ.out]; simp)), hB.trans (b1.mono hB.size)⟩
theorem Fo.depth_drop (f : Fo) (i : Nat) (h : i < f.len) : (f.drop i).depth = max ((f.kids i).depth + 1) (f.drop (i + 1)).depth := by rw [Fo.drop_at f i h, Fo.depth]
/-- Is a node right? -/
def Nd.ok (d : Nd) : Bool := nodeB d.k d.n d.ks.len (d.ks.n 0) (d.ks.n 1)
/-- What Check tells of a tree. -/
def chkd (k n : Int) (ks : Fo) : Int := if 60 < ks.cnt + 1 ∨ 12 < ks.depth + 1 then 12 else if (Nd.mk k n ks :: ks.pre).all Nd.ok then 0 else 8
theorem all_step (l : List Nd) (i : Nat) (h : i < l.length) : (l.drop i).all Nd.ok = (l[i].ok && (l.drop (i + 1)).all Nd.ok) := by
  rw [List.drop_eq_getElem_cons h, List.all_cons]
end Go.Proofs.Ytofgkhoemgimeaa
/- Package bulk: which trees are too big. -/
namespace Go.Proofs.Ytofgkhoemgimeaa
open Go.ChangeShapes Go.WideShapes Go.ChangeAt Go.RowKit
set_option linter.unusedVariables false
/-- A row of nodes at a depth, of so many nodes that are left: is it too big, and how many are left behind it? -/
def bigF : Fo → Int → Int → Bool × Int
  | .nil, _, l => (false, l)
  | .cons _ _ ks r, d, l => if l - 1 < 0 ∨ 12 < d then (true, l - 1) else if (bigF ks (d + 1) (l - 1)).1 then (true, (bigF ks (d + 1) (l - 1)).2) else bigF r d (bigF ks (d + 1) (l - 1)).2
/-- The same of one node, by its kids. -/
def bigN (ks : Fo) (d l : Int) : Bool × Int := if l - 1 < 0 ∨ 12 < d then (true, l - 1) else bigF ks (d + 1) (l - 1)
theorem bigF_cons (k n : Int) (ks r : Fo) (d l : Int) : bigF (.cons k n ks r) d l = if (bigN ks d l).1 then (true, (bigN ks d l).2) else bigF r d (bigN ks d l).2 := by
  rw [bigF, bigN]
  by_cases h : l - 1 < 0 ∨ 12 < d
  · simp [h]
  · simp [h]
theorem bigF_yes {f : Fo} {i : Nat} {d l : Int} (h : i < f.len) (hb : (bigN (f.kids i) d l).1 = true) : bigF (f.drop i) d l = (true, (bigN (f.kids i) d l).2) := by
  rw [Fo.drop_at f i h, bigF_cons, if_pos hb]
theorem bigF_no {f : Fo} {i : Nat} {d l : Int} (h : i < f.len) (hb : (bigN (f.kids i) d l).1 = false) : bigF (f.drop i) d l = bigF (f.drop (i + 1)) d (bigN (f.kids i) d l).2 := by
  rw [Fo.drop_at f i h, bigF_cons, if_neg (by simp [hb])]
theorem bigF_end (f : Fo) (d l : Int) : bigF (f.drop f.len) d l = (false, l) := by rw [Fo.drop_len, bigF]
theorem bigN_stop {ks : Fo} {d l : Int} (h : l - 1 < 0 ∨ 12 < d) : bigN ks d l = (true, l - 1) := if_pos h
theorem bigN_go {ks : Fo} {d l : Int} (h : ¬ (l - 1 < 0 ∨ 12 < d)) : bigN ks d l = bigF ks (d + 1) (l - 1) := if_neg h
theorem bigF_bd : ∀ (f : Fo) (d l : Int), 0 ≤ l → (bigF f d l).2 ≤ l ∧ -1 ≤ (bigF f d l).2 ∧ ((bigF f d l).1 = false → 0 ≤ (bigF f d l).2)
  | .nil, d, l, h => by simp only [bigF]; omega
  | .cons _ _ ks r, d, l, h => by
    rw [bigF]
    by_cases h1 : l - 1 < 0 ∨ 12 < d
    · rw [if_pos h1]; refine ⟨by show l - 1 ≤ l; omega, by show -1 ≤ l - 1; omega, fun e => by cases e⟩
    · rw [if_neg h1]
      have a := bigF_bd ks (d + 1) (l - 1) (by omega)
      cases hb : (bigF ks (d + 1) (l - 1)).1 with
      | true => rw [if_pos rfl]; exact ⟨by show (bigF ks (d + 1) (l - 1)).2 ≤ l; omega, a.2.1, fun e => by cases e⟩
      | false =>
        rw [if_neg (by simp)]
        have b := bigF_bd r d (bigF ks (d + 1) (l - 1)).2 (a.2.2 hb)
        exact ⟨by omega, b.2.1, b.2.2⟩
theorem bigN_bd (f : Fo) (d l : Int) (h : 0 ≤ l) : (bigN f d l).2 ≤ l ∧ -1 ≤ (bigN f d l).2 ∧ ((bigN f d l).1 = false → 0 ≤ (bigN f d l).2) := by
  by_cases h1 : l - 1 < 0 ∨ 12 < d
  · rw [bigN_stop h1]; refine ⟨by show l - 1 ≤ l; omega, by show -1 ≤ l - 1; omega, fun e => by cases e⟩
  · rw [bigN_go h1]
    have a := bigF_bd f (d + 1) (l - 1) (by omega)
    exact ⟨by omega, a.2.1, a.2.2⟩
/-- Just the trees that are too deep, or of too many nodes. -/
theorem bigF_what : ∀ (f : Fo) (d l : Int), 0 ≤ l → d ≤ 13 → ((bigF f d l).1 = false ↔ (f.cnt : Int) ≤ l ∧ (f.depth : Int) + d ≤ 13) ∧ ((bigF f d l).1 = false → (bigF f d l).2 = l - f.cnt)
  | .nil, d, l, h, hd => by simp [bigF, Fo.cnt, Fo.depth]; omega
  | .cons _ _ ks r, d, l, h, hd => by
    rw [bigF]
    simp only [Fo.cnt, Fo.depth]
    by_cases h1 : l - 1 < 0 ∨ 12 < d
    · rw [if_pos h1]
      refine ⟨⟨fun e => (by cases e), fun e => ?_⟩, fun e => (by cases e)⟩
      exfalso
      omega
    · rw [if_neg h1]
      have a := bigF_what ks (d + 1) (l - 1) (by omega) (by omega)
      have a2 := bigF_bd ks (d + 1) (l - 1) (by omega)
      cases hb : (bigF ks (d + 1) (l - 1)).1 with
      | true =>
        rw [if_pos rfl]
        refine ⟨⟨fun e => (by cases e), fun e => ?_⟩, fun e => (by cases e)⟩
        exfalso
        rw [hb] at a
        have := a.1.2 (by omega)
        cases this
      | false =>
        rw [if_neg (by simp)]
        have hl := a.2 hb
        have hh := a.1.1 hb
        have b := bigF_what r d (bigF ks (d + 1) (l - 1)).2 (a2.2.2 hb) hd
        rw [hl] at b ⊢
        refine ⟨b.1.trans ?_, fun e => ?_⟩
        · omega
        · have := b.2 e; omega
end Go.Proofs.Ytofgkhoemgimeaa
