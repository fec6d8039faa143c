/- Package script: word, and words of a call that asks by a key. -/
import Derived.Test.YtoejflnlkapkiaaDoorScb
import Derived.Test.YtoejflnlkapkiaaDoorVecc
namespace Go.Proofs.YtoejflnlkapkiaaDoor
open Go.ChangeShapes Go.WideShapes Go.ChangeAt Go.RowKit
set_option linter.unusedVariables false
set_option linter.unusedSimpArgs false
/-- The word of a kind. -/
def wdK (k : Int) : ByteArray :=
  if k = 1 then ⟨#[103, 101, 116]⟩ else if k = 2 then ⟨#[108, 111, 111, 107, 117, 112]⟩ else if k = 3 then ⟨#[101, 118, 105, 99, 116]⟩ else if k = 4 then ⟨#[105, 109, 112, 111, 114, 116]⟩
  else if k = 5 then ⟨#[101, 120, 112, 111, 114, 116]⟩ else if k = 6 then ⟨#[101, 120, 101, 99, 117, 116, 101]⟩ else if k = 7 then ⟨#[114, 101, 108, 101, 97, 115, 101]⟩ else ⟨#[]⟩
set_option maxRecDepth 100000 in
theorem sc_word (k : Int) (W : World) : Calls Tryd.prog 19 #[.int .i64 k] W fun e w' => e = .returned (.string (wdK k)) ∧ W = w' := by
  by_cases h1 : k = 1
  · subst h1
    go_enter Tryd.func19, Tryd.ntmps19
    go_wp2_with fail
    go_ret
    exact ⟨rfl, rfl⟩
  by_cases h2 : k = 2
  · subst h2
    go_enter Tryd.func19, Tryd.ntmps19
    go_wp2_with fail
    go_ret
    exact ⟨rfl, rfl⟩
  by_cases h3 : k = 3
  · subst h3
    go_enter Tryd.func19, Tryd.ntmps19
    go_wp2_with fail
    go_ret
    exact ⟨rfl, rfl⟩
  by_cases h4 : k = 4
  · subst h4
    go_enter Tryd.func19, Tryd.ntmps19
    go_wp2_with fail
    go_ret
    exact ⟨rfl, rfl⟩
  by_cases h5 : k = 5
  · subst h5
    go_enter Tryd.func19, Tryd.ntmps19
    go_wp2_with fail
    go_ret
    exact ⟨rfl, rfl⟩
  by_cases h6 : k = 6
  · subst h6
    go_enter Tryd.func19, Tryd.ntmps19
    go_wp2_with fail
    go_ret
    exact ⟨rfl, rfl⟩
  by_cases h7 : k = 7
  · subst h7
    go_enter Tryd.func19, Tryd.ntmps19
    go_wp2_with fail
    go_ret
    exact ⟨rfl, rfl⟩
  · have e1 : (k == 1) = false := by simp [h1]
    have e2 : (k == 2) = false := by simp [h2]
    have e3 : (k == 3) = false := by simp [h3]
    have e4 : (k == 4) = false := by simp [h4]
    have e5 : (k == 5) = false := by simp [h5]
    have e6 : (k == 6) = false := by simp [h6]
    have e7 : (k == 7) = false := by simp [h7]
    have hw : wdK k = ⟨#[]⟩ := by unfold wdK; rw [if_neg h1, if_neg h2, if_neg h3, if_neg h4, if_neg h5, if_neg h6, if_neg h7]
    rw [hw]
    clear h1 h2 h3 h4 h5 h6 h7 hw
    go_enter Tryd.func19, Tryd.ntmps19
    go_wp2_with fail
    go_ret
    exact ⟨rfl, rfl⟩
/-- A call in numbers. -/
structure Cl where
  kd : Int
  n : Int
  dir : Int
  s : ByteArray
  who : Int
  at' : Int
  xs : List Int
def i64r (z : Int) : Prop := -9223372036854775808 ≤ z ∧ z ≤ 9223372036854775807
structure Cl.ok (c : Cl) : Prop where
  kd : i64r c.kd
  n : i64r c.n
  dir : i64r c.dir
  who : i64r c.who
  at' : i64r c.at'
def Cl.val (c : Cl) (x : Value) : Value := .agg #[.int .i64 c.kd, .int .i64 c.n, .int .i64 c.dir, .string c.s, .int .i64 c.who, .int .i64 c.at', x]
/-- Its numbers' row. -/
def RowX (w : World) (v : Value) (xs : List Int) : Prop := ∃ p k, v = .slice p xs.length k ∧ Row w p xs.length xs
theorem RowX.below {w w' : World} {v : Value} {xs : List Int} (h : RowX w v xs) (hb : Below w.heap.size w w') : RowX w' v xs := by
  obtain ⟨p, k, rfl, h⟩ := h
  exact ⟨p, k, rfl, h.below hb⟩
theorem rowI2 (w : World) (x y : Int) (hx : i64r x) (hy : i64r y) : RowI (w.alloc (.cells #[.int .i64 x, .int .i64 y] 3)) (some ⟨w.heap.size, 0, none⟩) 2 [x, y] :=
  RowI.of_at (T := 3) (by unfold RowAtI; exact heap_alloc_new _ _) (by
    intro u hu
    simp only [List.mem_cons, List.not_mem_nil, or_false] at hu
    rcases hu with rfl | rfl
    · have h1 := hx.1; have h2 := hx.2; simp [Lit.wf, IntKind.min, IntKind.max, IntKind.signed, IntKind.bits]; omega
    · have h1 := hy.1; have h2 := hy.2; simp [Lit.wf, IntKind.min, IntKind.max, IntKind.signed, IntKind.bits]; omega) rfl (by decide)
theorem boxG (W : World) (cs : Array Value) (T : TypeId) : ∃ w0, W.alloc (.cells cs T) = w0 ∧ w0.heap[W.heap.size]? = some (.cells cs T (0, 0)) ∧ Below W.heap.size W w0 ∧ w0.heap.size = W.heap.size + 1 :=
  ⟨_, rfl, heap_alloc_new _ _, (Below.refl _ _).alloc (Nat.le_refl _) _, by simp⟩
theorem cells7 {w : World} {b : Nat} {T : TypeId} {x0 x1 x2 x3 x4 x5 x6 : Value} (h : w.heap[b]? = some (.cells #[x0, x1, x2, x3, x4, x5, x6] T (0, 0))) :
    w.cell? ⟨b, 0, none⟩ = some x0 ∧ w.cell? ⟨b, 1, none⟩ = some x1 ∧ w.cell? ⟨b, 2, none⟩ = some x2 ∧ w.cell? ⟨b, 3, none⟩ = some x3 ∧ w.cell? ⟨b, 4, none⟩ = some x4 ∧ w.cell? ⟨b, 5, none⟩ = some x5 ∧ w.cell? ⟨b, 6, none⟩ = some x6 := by
  refine ⟨?_, ?_, ?_, ?_, ?_, ?_, ?_⟩ <;> (rw [cell_of_row _ _ _ _ _ _ h]; rfl)
/-- What words tells. -/
def Words (W : World) (l : List Value) (e : Ending) (w' : World) : Prop := ∃ v, e = .returned v ∧ w'.ownsRow W.heap.size 9 1 v l.length l ∧ Below W.heap.size W w'
theorem wsI2_len (f : ByteArray) (x y : Int) : (wsI f [x, y]).length = 3 := rfl
set_option maxRecDepth 100000 in
set_option maxHeartbeats 4000000 in
theorem sc_words_key (c : Cl) (x : Value) (W : World) (hx : ∃ p n k, x = .slice p n k) (hk : c.kd = 1 ∨ c.kd = 2 ∨ c.kd = 3) (hc : c.ok) (hT : Lib.TabIs Tryd.prog W "internal/strconv.uint64pow10" .u64 Lib.pow10Tab) :
    Calls Tryd.prog 22 #[c.val x] W (Words W (wsI (wdK c.kd) [c.n, c.dir])) := by
  obtain ⟨p, n, k, rfl⟩ := hx
  obtain ⟨kd, a, b, s, who, ar, xs⟩ := c
  have ha := hc.n
  have hb := hc.dir
  simp only at hk ha hb
  show Calls Tryd.prog 22 #[.agg #[.int .i64 kd, .int .i64 a, .int .i64 b, .string s, .int .i64 who, .int .i64 ar, .slice p n k]] W (Words W (wsI (wdK kd) [a, b]))
  obtain ⟨w0, hw0, r0, hB0, hs0⟩ := boxG W #[.int .i64 kd, .int .i64 a, .int .i64 b, .string s, .int .i64 who, .int .i64 ar, .slice p n k] 49
  obtain ⟨x0, x1, x2, x3, x4, x5, x6⟩ := cells7 r0
  obtain ⟨w1, hw1, r1, hB1, hs1⟩ := boxG w0 #[.int .i64 a, .int .i64 b] 3
  have NU := sc_numbers (wdK kd) (some ⟨w0.heap.size, 0, none⟩) 2 2 [a, b] w1 (by rw [← hw1]; exact rowI2 w0 a b ha hb) (by decide) (pow10_bel hT (hB0.trans (hB1.mono (by omega))))
  have HBB := Lib.hid (hB0.trans (hB1.mono (Nat.le_of_lt (by omega : W.heap.size < w0.heap.size))))
  have HZ := Lib.hid (show W.heap.size ≤ w1.heap.size by omega)
  have NU := Lib.hid NU
  have WD := Lib.hid (fun (w : World) => sc_word kd w)
  clear hc hT ha hb r0 hB0 r1 hB1 hs1 hs0
  rcases hk with rfl | rfl | rfl
  all_goals
    go_enter Tryd.func22, Tryd.ntmps22
    go_wp2_with fail
    refine (WD.out _).mono ?_
    rintro e w2 ⟨rfl, rfl⟩
    go_wp2_with fail
    refine NU.out.mono ?_
    rintro e w2 ⟨v, rfl, ho, hb⟩
    have HO := Lib.hid (ho.mono HZ.out)
    have HB2 := Lib.hid (HBB.out.trans (hb.mono HZ.out))
    clear ho hb
    go_wp2_with fail
    go_ret
    exact ⟨v, rfl, HO.out, HB2.out⟩
end Go.Proofs.YtoejflnlkapkiaaDoor
