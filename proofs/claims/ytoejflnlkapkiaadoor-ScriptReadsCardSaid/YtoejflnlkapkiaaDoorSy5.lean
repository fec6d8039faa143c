/- Put together by program (merge2.py): Refe2 Vecc Scc Scd. -/
import Derived.Test.YtoejflnlkapkiaaDoorSy2
import Derived.Test.YtoejflnlkapkiaaDoorSy4
/- The document's own sums, products of two rows (dulcimerref05). -/
namespace Go.Proofs.YtoejflnlkapkiaaDoor
open Go.ChangeShapes Go.WideShapes Go.ChangeAt Go.RowKit
set_option linter.unusedVariables false

theorem scl_at' (a : Int) (xs : List Int) (k : Nat) (h : k < xs.length) : (scl a xs).getD k 0 = fm (xs.getD k 0 * a) := by
  rw [scl_at a xs k h, Int.mul_comm]

theorem fsum_dot (xs ys : List Int) (k : Nat) (h : k < xs.length) (h' : xs.length = ys.length) : fm (fsum (zmul xs ys) k + fm (xs.getD k 0 * ys.getD k 0)) = fsum (zmul xs ys) (k + 1) := by
  rw [← zmul_at xs ys k h h', fsum_succ _ _ (by rw [zmul_len xs ys h']; exact h)]

end Go.Proofs.YtoejflnlkapkiaaDoor
/- Layer 5's calls, as the laws meet them: every answer is a slice that reads as a list. -/
namespace Go.Proofs.YtoejflnlkapkiaaDoor
open Go.ChangeShapes Go.WideShapes Go.ChangeAt Go.RowKit
set_option linter.unusedVariables false

theorem scl_one (xs : List Int) : scl 1 xs = redl xs := by unfold scl redl; simp
theorem redl_wf (xs : List Int) : ∀ z ∈ redl xs, (Lit.int .u64 z).wf = true := by rw [← scl_one]; exact scl_wf 1 xs

/-- What a slice of words is, for a callee: what it reads as, that each is in order, how many. -/
structure Row (w : World) (a : Option Addr) (n : Nat) (xs : List Int) : Prop where
  len : xs.length = n
  reads : Reads .u64 w a xs
  wf : ∀ x ∈ xs, (Lit.int .u64 x).wf = true
  small : n ≤ 17592186044415
theorem Row.below {w w' : World} {a : Option Addr} {n : Nat} {xs : List Int} (h : Row w a n xs) (hb : Below w.heap.size w w') : Row w' a n xs := ⟨h.len, h.reads.below hb, h.wf, h.small⟩
theorem Row.alloc {w : World} {a : Option Addr} {n : Nat} {xs : List Int} (h : Row w a n xs) (o : Obj) : Row (w.alloc o) a n xs := ⟨h.len, h.reads.alloc o, h.wf, h.small⟩
theorem Row.drew {w : World} {a : Option Addr} {n : Nat} {xs : List Int} (h : Row w a n xs) : Row w.drew a n xs := h.below (Below.refl _ _).drew
theorem Row.cell {w : World} {a : Option Addr} {n : Nat} {xs : List Int} (h : Row w a n xs) {k : Nat} (hk : k < n) : ∃ b off, a = some ⟨b, off, none⟩ ∧ b < w.heap.size ∧ w.cell? ⟨b, off + k, none⟩ = some (.int .u64 (xs.getD k 0)) ∧ 0 ≤ xs.getD k 0 ∧ xs.getD k 0 ≤ 18446744073709551615 := by
  rcases h.reads with hn | ⟨b, off, e, hb, hc⟩
  · have := h.len; rw [hn] at this; simp at this; omega
  · exact ⟨b, off, e, hb, hc k (by rw [h.len]; exact hk), words_at h.wf k (by rw [h.len]; exact hk)⟩
theorem Row.of_at {w : World} {B : Nat} {ys : List Int} (h : RowAt w B 78 ys) (hw : ∀ x ∈ ys, (Lit.int .u64 x).wf = true) {n : Nat} (hn : ys.length = n) (hs : n ≤ 17592186044415) : Row w (some ⟨B, 0, none⟩) n ys := ⟨hn, h.reads, hw, hs⟩

/-- The answer is a slice of n words that reads as ys; nothing that was there has turned. -/
def Gives (w : World) (n : Nat) (ys : List Int) (e : Ending) (w' : World) : Prop := ∃ a c, e = .returned (.slice a n c) ∧ Row w' a n ys ∧ Below w.heap.size w w'

theorem gives_at {w w' : World} {n : Nat} {ys : List Int} {e : Ending} (he : e = .returned (.slice (some ⟨w.heap.size, 0, none⟩) n n)) (h : RowAt w' w.heap.size 78 ys) (hb : Below w.heap.size w w') (hw : ∀ x ∈ ys, (Lit.int .u64 x).wf = true) (hn : ys.length = n) (hs : n ≤ 17592186044415) : Gives w n ys e w' :=
  ⟨_, _, he, Row.of_at h hw hn hs, hb⟩
theorem gives_own {w w' : World} {n B : Nat} {ys : List Int} {e : Ending} {v : Value} (he : e = .returned v) (h : Owns w' B 78 .u64 v ys) (hb : Below w.heap.size w w') (hw : ∀ x ∈ ys, (Lit.int .u64 x).wf = true) (hn : ys.length = n) (hs : n ≤ 17592186044415) : Gives w n ys e w' := by
  obtain ⟨a, c, hv, hr, _, _⟩ := h.shape
  exact ⟨a, c, by rw [he, hv, hn], ⟨hn, hr, hw, hs⟩, hb⟩

/-- The answer is such a slice, and no error. -/
def GivesOk (w : World) (n : Nat) (ys : List Int) (e : Ending) (w' : World) : Prop := ∃ a c, e = .returned (.tuple #[.slice a n c, .int .i64 0]) ∧ Row w' a n ys ∧ Below w.heap.size w w'
/-- The same row twice. -/
theorem c_same {w : World} {p q : Option Addr} {n c d : Nat} {xs : List Int} (h : Row w p n xs) (k : Row w q n xs) : Calls Tryd.prog 34 #[.slice p n c, .slice q n d] w fun e w' => e = .returned (.bool true) ∧ Below w.heap.size w w' := by
  obtain ⟨rfl, hr, hw, hs⟩ := h
  obtain ⟨_, kr, kw, _⟩ := k
  have := r2_same p q c d xs xs w hr kr (by omega)
  rwa [decide_eq_true rfl] at this
theorem c_sameb {w : World} {p q : Option Addr} {n m c d : Nat} {xs ys : List Int} {b : Bool} (h : Row w p n xs) (k : Row w q m ys) (hb : decide (xs = ys) = b) : Calls Tryd.prog 34 #[.slice p n c, .slice q m d] w fun e w' => e = .returned (.bool b) ∧ Below w.heap.size w w' := by
  obtain ⟨rfl, hr, hw, hs⟩ := h
  obtain ⟨rfl, kr, kw, _⟩ := k
  have := r2_same p q c d xs ys w hr kr (by omega)
  rwa [hb] at this
theorem Row.of_isRow {w : World} {a : Option Addr} {n c : Nat} (h : IsRow .u64 w a n c) (hs : n ≤ 17592186044415) : ∃ xs, Row w a n xs := by
  obtain ⟨xs, hn, _, _, hr, hw⟩ := h
  exact ⟨xs, hn, hr, hw, hs⟩

end Go.Proofs.YtoejflnlkapkiaaDoor
/- Package script: word, and words of a call that asks by a key. -/
namespace Go.Proofs.YtoejflnlkapkiaaDoor
open Go.ChangeShapes Go.WideShapes Go.ChangeAt Go.RowKit
set_option linter.unusedVariables false
set_option linter.unusedSimpArgs false
/-- The word of a kind. -/
def wdK (k : Int) : ByteArray :=
  if k = 1 then ⟨#[103, 101, 116]⟩ else if k = 2 then ⟨#[108, 111, 111, 107, 117, 112]⟩ else if k = 3 then ⟨#[101, 118, 105, 99, 116]⟩ else if k = 4 then ⟨#[105, 109, 112, 111, 114, 116]⟩
  else if k = 5 then ⟨#[101, 120, 112, 111, 114, 116]⟩ else if k = 6 then ⟨#[101, 120, 101, 99, 117, 116, 101]⟩ else if k = 7 then ⟨#[114, 101, 108, 101, 97, 115, 101]⟩ else ⟨#[]⟩
set_option maxRecDepth 100000 in
theorem sc_word (k : Int) (W : World) : Calls Tryd.prog 19 #[.int .i64 k] W fun e w' => e = .returned (.string (wdK k)) ∧ W = w' := by
  by_cases h1 : k = 1
  · subst h1
    go_enter Tryd.func19, Tryd.ntmps19
    go_wp2_with fail
    go_ret
    exact ⟨rfl, rfl⟩
  by_cases h2 : k = 2
  · subst h2
    go_enter Tryd.func19, Tryd.ntmps19
    go_wp2_with fail
    go_ret
    exact ⟨rfl, rfl⟩
  by_cases h3 : k = 3
  · subst h3
    go_enter Tryd.func19, Tryd.ntmps19
    go_wp2_with fail
    go_ret
    exact ⟨rfl, rfl⟩
  by_cases h4 : k = 4
  · subst h4
    go_enter Tryd.func19, Tryd.ntmps19
    go_wp2_with fail
    go_ret
    exact ⟨rfl, rfl⟩
  by_cases h5 : k = 5
  · subst h5
    go_enter Tryd.func19, Tryd.ntmps19
    go_wp2_with fail
    go_ret
    exact ⟨rfl, rfl⟩
  by_cases h6 : k = 6
  · subst h6
    go_enter Tryd.func19, Tryd.ntmps19
    go_wp2_with fail
    go_ret
    exact ⟨rfl, rfl⟩
  by_cases h7 : k = 7
  · subst h7
    go_enter Tryd.func19, Tryd.ntmps19
    go_wp2_with fail
    go_ret
    exact ⟨rfl, rfl⟩
  · have e1 : (k == 1) = false := by simp [h1]
    have e2 : (k == 2) = false := by simp [h2]
    have e3 : (k == 3) = false := by simp [h3]
    have e4 : (k == 4) = false := by simp [h4]
    have e5 : (k == 5) = false := by simp [h5]
    have e6 : (k == 6) = false := by simp [h6]
    have e7 : (k == 7) = false := by simp [h7]
    have hw : wdK k = ⟨#[]⟩ := by unfold wdK; rw [if_neg h1, if_neg h2, if_neg h3, if_neg h4, if_neg h5, if_neg h6, if_neg h7]
    rw [hw]
    clear h1 h2 h3 h4 h5 h6 h7 hw
    go_enter Tryd.func19, Tryd.ntmps19
    go_wp2_with fail
    go_ret
    exact ⟨rfl, rfl⟩
/-- A call in numbers. -/
structure Cl where
  kd : Int
  n : Int
  dir : Int
  s : ByteArray
  who : Int
  at' : Int
  xs : List Int
def i64r (z : Int) : Prop := -9223372036854775808 ≤ z ∧ z ≤ 9223372036854775807
structure Cl.ok (c : Cl) : Prop where
  kd : i64r c.kd
  n : i64r c.n
  dir : i64r c.dir
  who : i64r c.who
  at' : i64r c.at'
def Cl.val (c : Cl) (x : Value) : Value := .agg #[.int .i64 c.kd, .int .i64 c.n, .int .i64 c.dir, .string c.s, .int .i64 c.who, .int .i64 c.at', x]
/-- Its numbers' row. -/
def RowX (w : World) (v : Value) (xs : List Int) : Prop := ∃ p k, v = .slice p xs.length k ∧ Row w p xs.length xs
theorem RowX.below {w w' : World} {v : Value} {xs : List Int} (h : RowX w v xs) (hb : Below w.heap.size w w') : RowX w' v xs := by
  obtain ⟨p, k, rfl, h⟩ := h
  exact ⟨p, k, rfl, h.below hb⟩
theorem rowI2 (w : World) (x y : Int) (hx : i64r x) (hy : i64r y) : RowI (w.alloc (.cells #[.int .i64 x, .int .i64 y] 3)) (some ⟨w.heap.size, 0, none⟩) 2 [x, y] :=
  RowI.of_at (T := 3) (by unfold RowAtI; exact heap_alloc_new _ _) (by
    intro u hu
    simp only [List.mem_cons, List.not_mem_nil, or_false] at hu
    rcases hu with rfl | rfl
    · have h1 := hx.1; have h2 := hx.2; simp [Lit.wf, IntKind.min, IntKind.max, IntKind.signed, IntKind.bits]; omega
    · have h1 := hy.1; have h2 := hy.2; simp [Lit.wf, IntKind.min, IntKind.max, IntKind.signed, IntKind.bits]; omega) rfl (by decide)
theorem boxG (W : World) (cs : Array Value) (T : TypeId) : ∃ w0, W.alloc (.cells cs T) = w0 ∧ w0.heap[W.heap.size]? = some (.cells cs T (0, 0)) ∧ Below W.heap.size W w0 ∧ w0.heap.size = W.heap.size + 1 :=
  ⟨_, rfl, heap_alloc_new _ _, (Below.refl _ _).alloc (Nat.le_refl _) _, by simp⟩
theorem cells7 {w : World} {b : Nat} {T : TypeId} {x0 x1 x2 x3 x4 x5 x6 : Value} (h : w.heap[b]? = some (.cells #[x0, x1, x2, x3, x4, x5, x6] T (0, 0))) :
    w.cell? ⟨b, 0, none⟩ = some x0 ∧ w.cell? ⟨b, 1, none⟩ = some x1 ∧ w.cell? ⟨b, 2, none⟩ = some x2 ∧ w.cell? ⟨b, 3, none⟩ = some x3 ∧ w.cell? ⟨b, 4, none⟩ = some x4 ∧ w.cell? ⟨b, 5, none⟩ = some x5 ∧ w.cell? ⟨b, 6, none⟩ = some x6 := by
  refine ⟨?_, ?_, ?_, ?_, ?_, ?_, ?_⟩ <;> (rw [cell_of_row _ _ _ _ _ _ h]; rfl)
/-- What words tells. -/
def Words (W : World) (l : List Value) (e : Ending) (w' : World) : Prop := ∃ v, e = .returned v ∧ w'.ownsRow W.heap.size 9 1 v l.length l ∧ Below W.heap.size W w'
theorem wsI2_len (f : ByteArray) (x y : Int) : (wsI f [x, y]).length = 3 := rfl
set_option maxRecDepth 100000 in
set_option maxHeartbeats 4000000 in
theorem sc_words_key (c : Cl) (x : Value) (W : World) (hx : ∃ p n k, x = .slice p n k) (hk : c.kd = 1 ∨ c.kd = 2 ∨ c.kd = 3) (hc : c.ok) (hT : Lib.TabIs Tryd.prog W "internal/strconv.uint64pow10" .u64 Lib.pow10Tab) :
    Calls Tryd.prog 22 #[c.val x] W (Words W (wsI (wdK c.kd) [c.n, c.dir])) := by
  obtain ⟨p, n, k, rfl⟩ := hx
  obtain ⟨kd, a, b, s, who, ar, xs⟩ := c
  have ha := hc.n
  have hb := hc.dir
  simp only at hk ha hb
  show Calls Tryd.prog 22 #[.agg #[.int .i64 kd, .int .i64 a, .int .i64 b, .string s, .int .i64 who, .int .i64 ar, .slice p n k]] W (Words W (wsI (wdK kd) [a, b]))
  obtain ⟨w0, hw0, r0, hB0, hs0⟩ := boxG W #[.int .i64 kd, .int .i64 a, .int .i64 b, .string s, .int .i64 who, .int .i64 ar, .slice p n k] 49
  obtain ⟨x0, x1, x2, x3, x4, x5, x6⟩ := cells7 r0
  obtain ⟨w1, hw1, r1, hB1, hs1⟩ := boxG w0 #[.int .i64 a, .int .i64 b] 3
  have NU := sc_numbers (wdK kd) (some ⟨w0.heap.size, 0, none⟩) 2 2 [a, b] w1 (by rw [← hw1]; exact rowI2 w0 a b ha hb) (by decide) (pow10_bel hT (hB0.trans (hB1.mono (by omega))))
  have HBB := Lib.hid (hB0.trans (hB1.mono (Nat.le_of_lt (by omega : W.heap.size < w0.heap.size))))
  have HZ := Lib.hid (show W.heap.size ≤ w1.heap.size by omega)
  have NU := Lib.hid NU
  have WD := Lib.hid (fun (w : World) => sc_word kd w)
  clear hc hT ha hb r0 hB0 r1 hB1 hs1 hs0
  rcases hk with rfl | rfl | rfl
  all_goals
    go_enter Tryd.func22, Tryd.ntmps22
    go_wp2_with fail
    refine (WD.out _).mono ?_
    rintro e w2 ⟨rfl, rfl⟩
    go_wp2_with fail
    refine NU.out.mono ?_
    rintro e w2 ⟨v, rfl, ho, hb⟩
    have HO := Lib.hid (ho.mono HZ.out)
    have HB2 := Lib.hid (HBB.out.trans (hb.mono HZ.out))
    clear ho hb
    go_wp2_with fail
    go_ret
    exact ⟨v, rfl, HO.out, HB2.out⟩
end Go.Proofs.YtoejflnlkapkiaaDoor
/- Package script: a script in memory; its text. -/
namespace Go.Proofs.YtoejflnlkapkiaaDoor
open Go.ChangeShapes Go.WideShapes Go.ChangeAt Go.RowKit
set_option linter.unusedVariables false
set_option linter.unusedSimpArgs false
def ClAt (w : World) (b o : Nat) (c : Cl) : Prop := c.ok ∧ w.cell? ⟨b, o, none⟩ = some (.int .i64 c.kd) ∧ w.cell? ⟨b, o + 1, none⟩ = some (.int .i64 c.n) ∧ w.cell? ⟨b, o + 2, none⟩ = some (.int .i64 c.dir) ∧ w.cell? ⟨b, o + 3, none⟩ = some (.string c.s)
  ∧ w.cell? ⟨b, o + 4, none⟩ = some (.int .i64 c.who) ∧ w.cell? ⟨b, o + 5, none⟩ = some (.int .i64 c.at') ∧ ∃ v, w.cell? ⟨b, o + 6, none⟩ = some v ∧ RowX w v c.xs
theorem ClAt.below {w w' : World} {b o : Nat} {c : Cl} (h : ClAt w b o c) (hb : Below w.heap.size w w') (hl : b < w.heap.size) : ClAt w' b o c := by
  obtain ⟨h0, h1, h2, h3, h4, h5, h6, v, h7, h8⟩ := h
  exact ⟨h0, (hb.cell (p := ⟨b, o, none⟩) hl).trans h1, (hb.cell (p := ⟨b, o + 1, none⟩) hl).trans h2, (hb.cell (p := ⟨b, o + 2, none⟩) hl).trans h3, (hb.cell (p := ⟨b, o + 3, none⟩) hl).trans h4, (hb.cell (p := ⟨b, o + 4, none⟩) hl).trans h5, (hb.cell (p := ⟨b, o + 5, none⟩) hl).trans h6, v, (hb.cell (p := ⟨b, o + 6, none⟩) hl).trans h7, h8.below hb⟩
/-- A row of calls. -/
def RowC (w : World) (v : Value) (l : List Cl) : Prop := ∃ p c, v = .slice p l.length c ∧ (l = [] ∨ ∃ b o, p = some ⟨b, o, none⟩ ∧ b < w.heap.size ∧ ∀ (j : Nat) x, l[j]? = some x → ClAt w b (o + j * 7) x)
theorem RowC.below {w w' : World} {v : Value} {l : List Cl} (h : RowC w v l) (hb : Below w.heap.size w w') : RowC w' v l := by
  obtain ⟨p, c, rfl, h⟩ := h
  refine ⟨p, c, rfl, ?_⟩
  rcases h with h | ⟨b, o, hp, hl, h⟩
  · exact .inl h
  · exact .inr ⟨b, o, hp, Nat.lt_of_lt_of_le hl hb.size, fun j x hj => (h j x hj).below hb hl⟩
/-- A row of rows of calls. -/
def RowCC (w : World) (v : Value) (cs : List (List Cl)) : Prop := ∃ p c, v = .slice p cs.length c ∧ (cs = [] ∨ ∃ b o, p = some ⟨b, o, none⟩ ∧ b < w.heap.size ∧ ∀ (j : Nat) l, cs[j]? = some l → ∃ u, w.cell? ⟨b, o + j, none⟩ = some u ∧ RowC w u l)
theorem RowCC.below {w w' : World} {v : Value} {cs : List (List Cl)} (h : RowCC w v cs) (hb : Below w.heap.size w w') : RowCC w' v cs := by
  obtain ⟨p, c, rfl, h⟩ := h
  refine ⟨p, c, rfl, ?_⟩
  rcases h with h | ⟨b, o, hp, hl, h⟩
  · exact .inl h
  · refine .inr ⟨b, o, hp, Nat.lt_of_lt_of_le hl hb.size, fun j l hj => ?_⟩
    obtain ⟨u, h1, h2⟩ := h j l hj
    exact ⟨u, (hb.cell (p := ⟨b, o + j, none⟩) hl).trans h1, h2.below hb⟩
/-- Words and lines. -/
def wsL (f : ByteArray) (xs : List Int) : List ByteArray := f :: xs.map itS
theorem wsL_val (f : ByteArray) (xs : List Int) : (wsL f xs).map (Value.string ·) = wsI f xs := by unfold wsL wsI; simp
theorem wsL_len (f : ByteArray) (xs : List Int) : (wsL f xs).length = xs.length + 1 := by unfold wsL; simp
def hexD (n : Nat) : UInt8 := if n < 10 then UInt8.ofNat (48 + n) else UInt8.ofNat (87 + n)
def hexB (s : ByteArray) : List UInt8 := (s.data.toList.map fun b => [hexD (b.toNat / 16), hexD (b.toNat % 16)]).flatten
def udS (x : Int) : ByteArray := ⟨(Lib.decDigits x.toNat).toArray⟩
/-- The words of a call. -/
def wsC (c : Cl) : List ByteArray :=
  if c.kd = 1 ∨ c.kd = 2 ∨ c.kd = 3 then wsL (wdK c.kd) [c.n, c.dir]
  else if c.kd = 4 then (if c.s.data.toList = [] then [wdK c.kd] else [wdK c.kd, ⟨(hexB c.s).toArray⟩])
  else if c.kd = 6 then wsL (wdK c.kd) [c.who, c.at'] ++ c.xs.map udS
  else if c.kd = 7 then wsL (wdK c.kd) [c.who, c.at']
  else [wdK c.kd]
theorem wsC_pos (c : Cl) : 0 < (wsC c).length := by
  unfold wsC
  repeat' split
  all_goals simp [wsL]
def cliB : ByteArray := ⟨#[99, 108, 105, 101, 110, 116]⟩
def callsT (l : List Cl) : List UInt8 := (l.map fun c => lineB (wsC c)).flatten
def cliT (l : List Cl) : List UInt8 := lineB [cliB] ++ callsT l
def headT (st rm : Int) (ps ts : List Int) : List UInt8 := lineB (wsL ⟨#[112, 108, 97, 121]⟩ [st, rm]) ++ lineB (wsL ⟨#[112, 105, 99, 107, 115]⟩ ps) ++ lineB (wsL ⟨#[116, 105, 99, 107, 115]⟩ ts)
def scT (st rm : Int) (ps ts : List Int) (cs : List (List Cl)) : List UInt8 := headT st rm ps ts ++ (cs.map cliT).flatten
theorem callsT_step {l : List Cl} {k : Nat} {c : Cl} (h : l[k]? = some c) : callsT (l.take (k + 1)) = callsT (l.take k) ++ lineB (wsC c) := by
  unfold callsT; rw [List.take_add_one, h]; simp
theorem cliT_step {cs : List (List Cl)} {k : Nat} {l : List Cl} (h : cs[k]? = some l) : ((cs.take (k + 1)).map cliT).flatten = ((cs.take k).map cliT).flatten ++ cliT l := by
  rw [List.take_add_one, h]; simp
/-- All that is written is no longer than the whole. -/
theorem cliT_le {cs : List (List Cl)} {k : Nat} {l : List Cl} (h : cs[k]? = some l) : ((cs.take k).map cliT).flatten.length + (cliT l).length ≤ (cs.map cliT).flatten.length := by
  have e : cs = cs.take k ++ l :: cs.drop (k + 1) := by
    have h2 := List.getElem?_eq_some_iff.1 h
    rw [← h2.2, List.getElem_cons_drop, List.take_append_drop]
  have : (cs.map cliT).flatten = ((cs.take k).map cliT).flatten ++ (cliT l ++ ((cs.drop (k + 1)).map cliT).flatten) := by
    conv => lhs; rw [e]
    simp
  rw [this]; simp
theorem callsT_le {l : List Cl} {k : Nat} {c : Cl} (h : l[k]? = some c) : (callsT (l.take k)).length + (lineB (wsC c)).length ≤ (callsT l).length := by
  have e : l = l.take k ++ c :: l.drop (k + 1) := by
    have h2 := List.getElem?_eq_some_iff.1 h
    rw [← h2.2, List.getElem_cons_drop, List.take_append_drop]
  have : callsT l = callsT (l.take k) ++ (lineB (wsC c) ++ callsT (l.drop (k + 1))) := by
    conv => lhs; rw [e]
    unfold callsT; simp
  rw [this]; simp
theorem sc_str_nil (s : ByteArray) : s.toList.isEmpty = decide (s.data.toList = []) := by
  rw [Lib.toList_data]
  cases s.data.toList with
  | nil => rfl
  | cons a l => rfl
theorem sc_no_nil {s : ByteArray} (h : s.data.toList ≠ []) : s.toList.isEmpty = false := by rw [sc_str_nil]; exact decide_eq_false h
theorem join_ge : ∀ (l : List (List UInt8)), l.length ≤ (Lib.join l [32]).length + 1
  | [] => by simp
  | [x] => by simp
  | x :: y :: r => by
    have ih := join_ge (y :: r)
    have e : Lib.join (x :: y :: r) [32] = x ++ ([32] ++ Lib.join (y :: r) [32]) := by simp [Lib.join, List.intercalate]
    rw [e]; simp only [List.length_append, List.length_cons, List.length_nil] at ih ⊢; omega
theorem line_ge (ws : List ByteArray) : ws.length ≤ (lineB ws).length := by
  have h := join_ge (ws.map (·.data.toList))
  unfold lineB; rw [List.length_append]; simp only [List.length_map, List.length_cons, List.length_nil] at h ⊢; omega
theorem bat_mono {T e : TypeId} {B B' b : Nat} {p : Value} {bs : List Value} {w : World} (h : Lib.BuilderAt T e B b p bs w) (hB : B' ≤ B) : Lib.BuilderAt T e B' b p bs w := by
  obtain ⟨h1, v, hbk, hown, hne⟩ := h
  exact ⟨Nat.le_trans hB h1, v, hbk, hown.mono hB, hne⟩
theorem isb_mono {T e : TypeId} {B B' b : Nat} {bs : List Value} {w : World} (h : Lib.IsBuilder T e B b bs w) (hB : B' ≤ B) : Lib.IsBuilder T e B' b bs w := by
  rcases h with h | h
  · exact .inl (bat_mono h hB)
  · exact .inr (bat_mono h hB)
theorem own_made2 {w : World} {B : Nat} {v : Value} {n : Nat} {f : ByteArray} {xs : List Int} (h : w.ownsRow B 9 1 v n (wsI f xs)) : w.ownsRow B 9 1 v n ((wsL f xs).map (Value.string ·)) := by rw [wsL_val]; exact h
end Go.Proofs.YtoejflnlkapkiaaDoor
