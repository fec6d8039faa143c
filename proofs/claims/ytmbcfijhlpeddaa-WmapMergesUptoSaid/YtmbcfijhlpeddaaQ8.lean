/- Put together by program (merge2.py): Ern Ers Mpk Mpw Mpx. -/
import Derived.Deep.RegionWith
import Derived.WideKeyEntry
import Derived.DeepKeys4
import Derived.RegionTactic
import Derived.Test.YtmbcfijhlpeddaaQ4
import Derived.Test.YtmbcfijhlpeddaaQ7
/- Rows of entries, in numbers and in memory. -/
namespace Go.Proofs.Ytmbcfijhlpeddaa
open Go.ChangeShapes Go.WideShapes Go.ChangeAt Go.RowKit
set_option linter.unusedVariables false
set_option linter.unusedSimpArgs false
/-- An entry in numbers. -/
structure En where
  a : Int
  b : Int
  k : Int
  n : Int
  ks : Fo
def ent (x y : En) : Bool := Srt.klt (x.a, x.b) (y.a, y.b)
theorem ent_ord : Srt.SOrd ent := Srt.klt_ord (fun x : En => (x.a, x.b))
def sortN (l : List En) : List En := Srt.isort ent l
theorem sortN_len (l : List En) : (sortN l).length = l.length := Srt.isort_len l
theorem mem_sortN {l : List En} {e : En} (h : e ∈ sortN l) : e ∈ l := Srt.mem_isort h
/-- In words' range, and no tree too great. -/
def En.wf (e : En) : Prop := (-9223372036854775808 ≤ e.a ∧ e.a ≤ 9223372036854775807) ∧ (-9223372036854775808 ≤ e.b ∧ e.b ≤ 9223372036854775807) ∧ (-9223372036854775808 ≤ e.k ∧ e.k ≤ 9223372036854775807) ∧ (-9223372036854775808 ≤ e.n ∧ e.n ≤ 9223372036854775807) ∧ e.ks.wf ∧ e.ks.cnt + 1 ≤ 1048576
/-- An entry's cells in memory. -/
def EnAt (w : World) (lim b o : Nat) (e : En) : Prop := b < lim ∧ ∃ s, w.cell? ⟨b, o, none⟩ = some (.int .i64 e.a) ∧ w.cell? ⟨b, o + 1, none⟩ = some (.int .i64 e.b) ∧ w.cell? ⟨b, o + 2, none⟩ = some (.int .i64 e.k) ∧ w.cell? ⟨b, o + 3, none⟩ = some (.int .i64 e.n) ∧ w.cell? ⟨b, o + 4, none⟩ = some s ∧ Kids w lim s e.ks
theorem EnAt.carry {w w' : World} {lim b o : Nat} {e : En} (h : EnAt w lim b o e) (hB : Below lim w w') : EnAt w' lim b o e := by
  obtain ⟨hb, s, c0, c1, c2, c3, c4, hk⟩ := h
  exact ⟨hb, s, (hB.cell (p := ⟨b, o, none⟩) hb).trans c0, (hB.cell (p := ⟨b, o + 1, none⟩) hb).trans c1, (hB.cell (p := ⟨b, o + 2, none⟩) hb).trans c2, (hB.cell (p := ⟨b, o + 3, none⟩) hb).trans c3, (hB.cell (p := ⟨b, o + 4, none⟩) hb).trans c4, hk.carry hB⟩
theorem EnAt.mono {w : World} {lim lim' b o : Nat} {e : En} (h : EnAt w lim b o e) (hl : lim ≤ lim') : EnAt w lim' b o e := by
  obtain ⟨hb, s, c0, c1, c2, c3, c4, hk⟩ := h
  exact ⟨by omega, s, c0, c1, c2, c3, c4, hk.mono hl⟩
/-- A row of entries in memory. -/
def RowN (w : World) (lim : Nat) (v : Value) (l : List En) : Prop := ∃ p c, v = .slice p l.length c ∧ l.length ≤ c ∧ c ≤ maxLen ∧ ∀ i e, l[i]? = some e → ∃ b o, p = some ⟨b, o, none⟩ ∧ EnAt w lim b (o + i * 5) e
theorem RowN.carry {w w' : World} {lim : Nat} {v : Value} {l : List En} (h : RowN w lim v l) (hB : Below lim w w') : RowN w' lim v l := by
  obtain ⟨p, c, rfl, h1, h2, h3⟩ := h
  exact ⟨p, c, rfl, h1, h2, fun i e he => by obtain ⟨b, o, hp, ha⟩ := h3 i e he; exact ⟨b, o, hp, ha.carry hB⟩⟩
theorem RowN.mono {w : World} {lim lim' : Nat} {v : Value} {l : List En} (h : RowN w lim v l) (hl : lim ≤ lim') : RowN w lim' v l := by
  obtain ⟨p, c, rfl, h1, h2, h3⟩ := h
  exact ⟨p, c, rfl, h1, h2, fun i e he => by obtain ⟨b, o, hp, ha⟩ := h3 i e he; exact ⟨b, o, hp, ha.mono hl⟩⟩
theorem RowN.below {w w' : World} {lim : Nat} {v : Value} {l : List En} (h : RowN w lim v l) (hl : lim ≤ w.heap.size) (hB : Below w.heap.size w w') : RowN w' lim v l := h.carry (hB.mono hl)
theorem RowN.nought (w : World) (lim : Nat) : RowN w lim (.slice none 0 0) [] := ⟨none, 0, rfl, Nat.le_refl _, by unfold maxLen; omega, fun i e h => by simp at h⟩
theorem RowN.form {w : World} {lim : Nat} {v : Value} {l : List En} (h : RowN w lim v l) : ∃ p c, v = .slice p l.length c ∧ l.length ≤ c ∧ c ≤ maxLen := by
  obtain ⟨p, c, rfl, h1, h2, _⟩ := h; exact ⟨p, c, rfl, h1, h2⟩
theorem RowN.get {w : World} {lim : Nat} {p : Option Addr} {m c : Nat} {l : List En} (h : RowN w lim (.slice p m c) l) {i : Nat} {e : En} (he : l[i]? = some e) : ∃ b o, p = some ⟨b, o, none⟩ ∧ EnAt w lim b (o + i * 5) e := by
  obtain ⟨p', c', hv, h1, h2, h3⟩ := h
  cases hv
  exact h3 i e he
/-- With the value of its kids. -/
structure P6 where
  a : Int
  b : Int
  k : Int
  n : Int
  v : Value
  ks : Fo
def P6.e (p : P6) : E5 := ⟨p.a, p.b, p.k, p.n, p.v⟩
def P6.x (p : P6) : En := ⟨p.a, p.b, p.k, p.n, p.ks⟩
def plt (x y : P6) : Bool := Srt.klt (x.a, x.b) (y.a, y.b)
theorem ins_map {α β : Type} {lt : β → β → Bool} (f : α → β) (x : α) : ∀ l : List α, Srt.ins lt (f x) (l.map f) = (Srt.ins (fun x y => lt (f x) (f y)) x l).map f
  | [] => rfl
  | y :: l => by
    rw [List.map_cons, Srt.ins, Srt.ins]
    split
    · rfl
    · rw [ins_map f x l]; rfl
theorem fold_map {α β : Type} {lt : β → β → Bool} (f : α → β) (l : List α) : ∀ o : List α, (l.map f).foldl (fun o x => Srt.ins lt x o) (o.map f) = (l.foldl (fun o x => Srt.ins (fun x y => lt (f x) (f y)) x o) o).map f := by
  induction l with
  | nil => intro o; rfl
  | cons x l ih =>
    intro o
    rw [List.map_cons, List.foldl_cons, List.foldl_cons, ins_map, ih]
theorem isort_map {α β : Type} {lt : β → β → Bool} (f : α → β) (l : List α) : Srt.isort lt (l.map f) = (Srt.isort (fun x y => lt (f x) (f y)) l).map f := fold_map f l []
theorem sort_e (ps : List P6) : sortE (ps.map P6.e) = (Srt.isort plt ps).map P6.e := isort_map P6.e ps
theorem sort_x (ps : List P6) : sortN (ps.map P6.x) = (Srt.isort plt ps).map P6.x := isort_map P6.x ps
/-- An own row of such cells is a row of entries. -/
theorem row_of {w : World} {g c lim : Nat} {T : TypeId} {ps : List P6} (h : RowE w g T (ps.map P6.e)) (hg : g < lim) (hk : ∀ p ∈ ps, Kids w lim p.v p.ks) (hc : ps.length ≤ c ∧ c ≤ maxLen) : RowN w lim (.slice (some ⟨g, 0, none⟩) ps.length c) (ps.map P6.x) := by
  refine ⟨_, c, by rw [List.length_map], by rw [List.length_map]; exact hc.1, hc.2, fun i e he => ⟨g, 0, rfl, hg, ?_⟩⟩
  rw [List.getElem?_map] at he
  obtain ⟨q, hq, rfl⟩ := Option.map_eq_some_iff.1 he
  have hc := h.cells (i := i) (e := q.e) (by rw [List.getElem?_map, hq]; rfl)
  rw [Nat.zero_add]
  exact ⟨q.v, hc.1, hc.2.1, hc.2.2.1, hc.2.2.2.1, hc.2.2.2.2, hk q (List.mem_of_getElem? hq)⟩
def z5 : E5 := ⟨0, 0, 0, 0, .slice none 0 0⟩
theorem made5 (n : Nat) : madeCells #[.int .i64 0, .int .i64 0, .int .i64 0, .int .i64 0, .slice none 0 0] (n * 5) = (cL (List.replicate n z5)).toArray := by
  apply Array.ext'
  apply List.ext_getElem?
  intro i
  by_cases hi : i < n * 5
  · have hq : (List.replicate n z5)[i / 5]? = some z5 := by rw [List.getElem?_replicate]; simp; omega
    obtain ⟨c0, c1, c2, c3, c4⟩ := cL_at hq
    unfold madeCells
    have hd : i / 5 * 5 + i % 5 = i := by omega
    rcases (by omega : i % 5 = 0 ∨ i % 5 = 1 ∨ i % 5 = 2 ∨ i % 5 = 3 ∨ i % 5 = 4) with h | h | h | h | h
    · rw [show i / 5 * 5 = i by omega] at c0; show _ = (cL (List.replicate n z5))[i]?; rw [c0]; simp [hi, h, z5]
    · rw [show i / 5 * 5 + 1 = i by omega] at c1; show _ = (cL (List.replicate n z5))[i]?; rw [c1]; simp [hi, h, z5]
    · rw [show i / 5 * 5 + 2 = i by omega] at c2; show _ = (cL (List.replicate n z5))[i]?; rw [c2]; simp [hi, h, z5]
    · rw [show i / 5 * 5 + 3 = i by omega] at c3; show _ = (cL (List.replicate n z5))[i]?; rw [c3]; simp [hi, h, z5]
    · rw [show i / 5 * 5 + 4 = i by omega] at c4; show _ = (cL (List.replicate n z5))[i]?; rw [c4]; simp [hi, h, z5]
  · rw [List.getElem?_eq_none (by rw [Array.length_toList, size_madeCells]; omega), List.getElem?_eq_none (by simp [cL_len]; omega)]
theorem make_ens (w : World) (C : Nat) (hC : C ≤ 1048576) : ∃ w', (Instr.makeSlice 22 (.int .i64 C) (.int .i64 C)).run Try.prog w = .ok (.slice (some ⟨w.heap.size, 0, none⟩) C C) w' ∧ Below w.heap.size w w' ∧ w'.heap.size = w.heap.size + 1 ∧ RowE w' w.heap.size 36 (List.replicate C z5) := by
  obtain ⟨i, hi, hz, hs, hb⟩ := info_parts (show (Try.prog.info? 36).map (fun i => (i.zero, i.size, i.bytes)) = some (some (.agg #[.int .i64 0, .int .i64 0, .int .i64 0, .int .i64 0, .slice none 0 0]), 5, 56) by kernel_rfl)
  have hr := run_make w 22 36 i _ Try.underlying22 hi hz .i64 .i64 (C : Int) (C : Int) (by omega) (by omega) (by rw [hb]; omega) (by omega)
  rw [hs] at hr
  have hn := heap_alloc_new w (.cells (madeCells (Value.cells (.agg #[.int .i64 0, .int .i64 0, .int .i64 0, .int .i64 0, .slice none 0 0])) ((C : Int).toNat * 5)) 36)
  refine ⟨_, hr, (Below.refl _ _).alloc (Nat.le_refl _) _, World.size_alloc _ _, ?_⟩
  unfold RowE
  rw [hn]
  exact congrArg (fun x => some (Obj.cells x 36 (0, 0))) (made5 C)
/-- One done: an element that was cloned. -/
def ClP (w : World) (g : Nat) (p : P6) : Prop := ∃ F q, p.v = kidv F 0 p.ks.len ∧ Cloned w F p.ks q ∧ g < F ∧ p.ks.cnt ≤ 1048576
theorem ClP.but {w w' : World} {g : Nat} {p : P6} (h : ClP w g p) (hb : But w w' g) : ClP w' g p := by
  obtain ⟨F, q, hv, hC, hg, hc⟩ := h
  exact ⟨F, q, hv, hC.below (hb.heap hC.blk (by omega)) hb.z, hg, hc⟩
theorem ClP.below {w w' : World} {g : Nat} {p : P6} (h : ClP w g p) (hb : Below w.heap.size w w') : ClP w' g p := h.but (But.of_below g hb)
theorem ClP.kids {w : World} {g : Nat} {p : P6} (h : ClP w g p) : Kids w w.heap.size p.v p.ks := by
  obtain ⟨F, q, hv, hC, hg, hc⟩ := h
  rw [hv]
  exact hC.kids hC.blk hc
theorem ClP.form {w : World} {g : Nat} {p : P6} (h : ClP w g p) : ∃ a n c, p.v = .slice a n c := by
  obtain ⟨F, q, hv, hC, hg, hc⟩ := h
  obtain ⟨a, c, e⟩ := kidv_form F 0 p.ks.len
  exact ⟨a, _, c, by rw [hv, e]⟩
/-- What is copied so far. -/
structure Cpy (w : World) (g : Nat) (T : TypeId) (l : List En) (i : Nat) : Prop where
  ex : ∃ ps : List P6, ps.map P6.x = l.take i ∧ RowE w g T (ps.map P6.e ++ List.replicate (l.length - i) z5) ∧ ∀ p ∈ ps, ClP w g p
theorem Cpy.start {w : World} {g : Nat} {T : TypeId} {l : List En} (h : RowE w g T (List.replicate l.length z5)) : Cpy w g T l 0 := ⟨[], by simp, by simpa using h, fun p hp => by cases hp⟩
theorem Cpy.below {w w' : World} {g : Nat} {T : TypeId} {l : List En} {i : Nat} (h : Cpy w g T l i) (hb : Below w.heap.size w w') : Cpy w' g T l i := by
  obtain ⟨ps, h1, h2, h3⟩ := h.ex
  exact ⟨ps, h1, h2.below hb, fun p hp => (h3 p hp).below hb⟩
theorem Cpy.lt {w : World} {g : Nat} {T : TypeId} {l : List En} {i : Nat} (h : Cpy w g T l i) : g < w.heap.size := by
  obtain ⟨ps, h1, h2, h3⟩ := h.ex
  exact h2.lt
theorem Cpy.old {w : World} {g : Nat} {T : TypeId} {l : List En} {i : Nat} (h : Cpy w g T l i) (hi : i < l.length) : w.cell? ⟨g, i * 5, none⟩ = some (.int .i64 0) ∧ w.cell? ⟨g, i * 5 + 1, none⟩ = some (.int .i64 0) ∧ w.cell? ⟨g, i * 5 + 2, none⟩ = some (.int .i64 0) ∧ w.cell? ⟨g, i * 5 + 3, none⟩ = some (.int .i64 0) ∧ w.cell? ⟨g, i * 5 + 4, none⟩ = some (.slice none 0 0) ∧ ∀ o, w.frozen? ⟨g, o, none⟩ = false := by
  obtain ⟨ps, h1, h2, h3⟩ := h.ex
  have hl : ps.length = i := by have := congrArg List.length h1; rw [List.length_map, List.length_take] at this; omega
  have := h2.cells (i := i) (e := z5) (by rw [List.getElem?_append_right (by rw [List.length_map]; omega), List.getElem?_replicate, List.length_map, if_pos (by omega)])
  exact ⟨this.1, this.2.1, this.2.2.1, this.2.2.2.1, this.2.2.2.2, h2.free⟩
theorem Cpy.step {w : World} {g : Nat} {T : TypeId} {l : List En} {i F : Nat} {q : List Nd} {e : En} (h : Cpy w g T l i) (he : l[i]? = some e) (hC : Cloned w F e.ks q) (hF : g < F) (hc : e.ks.cnt ≤ 1048576) : Cpy (s5o w g (i * 5) ⟨e.a, e.b, e.k, e.n, kidv F 0 e.ks.len⟩) g T l (i + 1) := by
  obtain ⟨ps, h1, h2, h3⟩ := h.ex
  have hil := (List.getElem?_eq_some_iff.1 he).1
  have hl : ps.length = i := by have := congrArg List.length h1; rw [List.length_map, List.length_take] at this; omega
  have hb := s5o_but w g (i * 5) ⟨e.a, e.b, e.k, e.n, kidv F 0 e.ks.len⟩
  refine ⟨ps ++ [⟨e.a, e.b, e.k, e.n, kidv F 0 e.ks.len, e.ks⟩], ?_, ?_, ?_⟩
  · rw [List.map_append, h1, List.take_add_one, he]; rfl
  · have := h2.set i ⟨e.a, e.b, e.k, e.n, kidv F 0 e.ks.len⟩
    rw [List.set_append_right _ _ (by rw [List.length_map]; omega), List.length_map, hl, Nat.sub_self, show l.length - i = (l.length - (i + 1)) + 1 by omega, List.replicate_succ, List.set_cons_zero] at this
    rw [List.map_append, List.append_assoc]
    exact this
  · intro p hp
    rcases List.mem_append.1 hp with hp | hp
    · exact (h3 p hp).but hb
    · rw [List.mem_singleton] at hp
      subst hp
      exact ⟨F, q, rfl, hC.below (hb.heap hC.blk (by omega)) hb.z, hF, hc⟩
theorem Cpy.done {w : World} {g : Nat} {T : TypeId} {l : List En} (h : Cpy w g T l l.length) : ∃ ps : List P6, ps.map P6.x = l ∧ RowE w g T (ps.map P6.e) ∧ ∀ p ∈ ps, ClP w g p := by
  obtain ⟨ps, h1, h2, h3⟩ := h.ex
  exact ⟨ps, by rw [h1, List.take_length], by simpa using h2, h3⟩
end Go.Proofs.Ytmbcfijhlpeddaa
/- entry.Sort: a copy of each, sorted by keys and stable. -/
namespace Go.Proofs.Ytmbcfijhlpeddaa
open Go.ChangeShapes Go.WideShapes Go.ChangeAt Go.RowKit
set_option linter.unusedVariables false
set_option linter.unusedSimpArgs false
attribute [local go_sem ↓] Go.wp_at_zero Go.wp_at_succ
set_option maxRecDepth 100000 in
set_option maxHeartbeats 4000000 in
theorem sort_stable (g B N c : Nat) (T : TypeId) (l : List E5) (W : World) (hS : Srtr W B) (hne : B ≠ g) (hl : l.length = N) (hsm : N ≤ 1000000) (hc : N ≤ c ∧ c ≤ maxLen) (hform : Slv l) (h : RowE W g T l) :
    Calls Try.prog 46 #[.slice (some ⟨g, 0, none⟩) N c, .func (.func 47) #[] #[.pointer (some ⟨B, 0, none⟩)]] W fun e w' => e = .returned (.tuple #[]) ∧ But W w' g ∧ RowE w' g T (sortE l) := by
  have C := Lib.hid (stable g B N c T l W hS hne hl hsm hc hform h)
  clear hS hform h hl
  go_enter Try.func46, Try.ntmps46
  go_wp2_with fail
  refine C.out.mono ?_
  rintro e w' ⟨rfl, hb, hr⟩
  have h1 := Lib.hid hb
  have h2 := Lib.hid hr
  clear hb hr C
  go_wp2_with fail
  go_end0
  exact ⟨rfl, h1.out, h2.out⟩
theorem srtr_new (W : World) : ∃ w1 : World, w1 = W.alloc (.cells #[.func (.func 37) #[] #[]] 72) ∧ Srtr w1 W.heap.size ∧ Below W.heap.size W w1 ∧ w1.heap.size = W.heap.size + 1 :=
  ⟨_, rfl, heap_alloc_new _ _, (Below.refl _ _).alloc (Nat.le_refl _) _, by simp⟩
/-- The copies sorted. -/
theorem cpy_sort (W w2 wr : World) (g n : Nat) (l : List En) (hl : l.length = n) (hn : n ≤ 1000000) (hS : Srtr w2 W.heap.size) (hg : W.heap.size + 1 = g) (hB2 : Below W.heap.size W w2) (hb : But w2 wr g) (hC : Cpy wr g 36 l n) :
    Calls Try.prog 46 #[.slice (some ⟨g, 0, none⟩) n n, .func (.func 47) #[] #[.pointer (some ⟨W.heap.size, 0, none⟩)]] wr fun e w' => e = .returned (.tuple #[]) ∧ RowN w' w'.heap.size (.slice (some ⟨g, 0, none⟩) n n) (sortN l) ∧ Below W.heap.size W w' := by
  subst hl
  obtain ⟨ps, h1, h2, h3⟩ := hC.done
  have hlen : ps.length = l.length := by rw [← h1, List.length_map]
  have := sort_stable g W.heap.size l.length l.length _ (ps.map P6.e) wr (hS.but hb (by omega)) (by omega) (by rw [List.length_map]; exact hlen) hn ⟨Nat.le_refl _, by unfold maxLen; omega⟩ (fun e he => by
    obtain ⟨p, hp, rfl⟩ := List.mem_map.1 he
    exact (h3 p hp).form) h2
  refine this.mono ?_
  rintro e w' ⟨rfl, hb', hr⟩
  rw [sort_e] at hr
  have hsl : (Srt.isort plt ps).length = l.length := by rw [Srt.isort_len]; exact hlen
  have hR := row_of (lim := w'.heap.size) (c := l.length) hr hr.lt (fun p hp => ((h3 p (Srt.mem_isort hp)).but hb').kids) ⟨by omega, by unfold maxLen; omega⟩
  rw [hsl, ← sort_x, h1] at hR
  refine ⟨rfl, hR, hB2.trans ((hb.trans hb').b _ (by omega) hB2.size)⟩
set_option maxRecDepth 100000 in
set_option maxHeartbeats 8000000 in
theorem e_sorter (v : Value) (l : List En) (lim : Nat) (W : World) (h : RowN W lim v l) (hlim : lim ≤ W.heap.size) (hn : l.length ≤ 100000) (hw : ∀ e ∈ l, e.ks.cnt ≤ 1048576) :
    Calls Try.prog 38 #[.agg #[.func (.func 37) #[] #[]], v] W fun e w' => ∃ g, e = .returned (.slice (some ⟨g, 0, none⟩) l.length l.length) ∧ W.heap.size ≤ g ∧ RowN w' w'.heap.size (.slice (some ⟨g, 0, none⟩) l.length l.length) (sortN l) ∧ Below W.heap.size W w' := by
  obtain ⟨p, c, rfl, hlc, hcm⟩ := h.form
  obtain ⟨n, hnl⟩ : ∃ n, l.length = n := ⟨_, rfl⟩
  rw [hnl] at h hlc hn ⊢
  obtain ⟨w1, hw1, hS1, hB1, hs1⟩ := srtr_new W
  obtain ⟨w2, mk, hB2, hs2, hr2⟩ := make_ens w1 n (by omega)
  obtain ⟨g, hg⟩ : ∃ g, w1.heap.size = g := ⟨_, rfl⟩
  have hgB : W.heap.size + 1 = g := by omega
  have hB12 := hB1.trans (hB2.mono hB1.size)
  have hS2 := hS1.below hB2
  have HC0 : Hid (Cpy w2 g 36 l 0) := Lib.hid (Cpy.start (by rw [hnl, ← hg]; exact hr2))
  have DN := Lib.hid (fun wr (hb : But w2 wr g) (hC : Cpy wr g 36 l n) => cpy_sort W w2 wr g n l hnl (by omega) hS2 hgB hB12 hb hC)
  have HIN := Lib.hid (fun wr (hb : But w2 wr g) => h.carry ((hB12.trans (hb.b W.heap.size (by omega) hB12.size)).mono hlim))
  have HWF := Lib.hid hw
  have HG := Lib.hid hgB
  have HLIM := Lib.hid hlim
  have HNL := Lib.hid hnl
  have HW1 := Lib.hid hw1.symm
  rw [hg] at mk
  have mk' : (Instr.makeSlice 22 (.int .i64 n) (.int .i64 n)).run Try.prog w1 = .ok (.slice (some ⟨g, 0, none⟩) n n) w2 := mk
  have hcc : c ≤ 9223372036854775807 := by unfold maxLen at hcm; omega
  have HS12 := Lib.hid hB12.size
  clear h hw hw1 hS1 hB1 hs1 mk hB2 hs2 hr2 hg hgB hB12 hS2 hlim hcm
  go_enter Try.func38, Try.ntmps38
  go_upto_region 1 with fail
  rw [HW1.out]
  go_wp2_with fail
  clear mk'
  go_loopw [13] (fun j wr => ∃ i : Nat, j = .int .i64 i ∧ i ≤ n ∧ Hid (Cpy wr g 36 l i) ∧ Hid (But w2 wr g)) (fun j _ => n - (intOf j).toNat)
  case atStart => exact ⟨0, rfl, by omega, HC0, Lib.hid (But.refl _ _)⟩
  case round =>
    obtain ⟨i, rfl, hi, HC, HB⟩ := hrel
    by_cases hlt : i < n
    case neg =>
      obtain rfl : i = n := by omega
      have d1 : decide ((i : Int) < (i : Int)) = false := decide_eq_false (by omega)
      have C := DN.out wr HB.out HC.out
      clear HC HC0 DN HIN
      go_wp2_with fail
      refine C.mono ?_
      rintro e w3 ⟨rfl, hr, hb⟩
      have h1 := Lib.hid hr
      have h2 := Lib.hid hb
      clear C hr hb
      go_wp2_with fail
      go_ret
      exact ⟨g, rfl, by have := HG.out; omega, h1.out, h2.out⟩
    case pos =>
      have d1 : decide ((i : Int) < (n : Int)) = true := decide_eq_true (by omega)
      have d1' : decide (i < n) = true := decide_eq_true hlt
      obtain ⟨e, he⟩ : ∃ e, l[i]? = some e := ⟨l[i]'(by have := HNL.out; omega), List.getElem?_eq_getElem (by have := HNL.out; omega)⟩
      obtain ⟨b, o, rfl, hb, s, x0, x1, x2, x3, x4, hK⟩ := (HIN.out wr HB.out).get he
      obtain ⟨sp, sm, sc, rfl, -, -, hsm⟩ := hK.shape
      have hcnt := HWF.out e (List.mem_of_getElem? he)
      have hlw : lim ≤ wr.heap.size := by have := HB.out.z; have := HS12.out; have := HLIM.out; omega
      obtain ⟨w3, hw3, r3, hB3, hs3⟩ := box5 wr e.a e.b e.k e.n (.slice sp sm sc) 36
      have hC3 := HC.out.below hB3
      have CL := Lib.hid (fun u (hu : Below w3.heap.size w3 u) => (show Calls Try.prog 26 #[.agg #[.int .i64 e.k, .int .i64 e.n, .slice sp sm sc]] u fun x w' => ∃ F q ja jc, x = .returned (.agg #[.int .i64 e.k, .int .i64 e.n, .slice ja e.ks.len jc]) ∧ kidv F 0 e.ks.len = .slice ja e.ks.len jc ∧ Cloned w' F e.ks q ∧ w3.heap.size ≤ F ∧ Below w3.heap.size w3 w' from by
        refine (desc_clone e.k e.n (.slice sp sm sc) e.ks lim u ((hK.below hlw hB3).below (by omega) hu) (by have := hu.size; omega) hcnt).mono ?_
        rintro x w' ⟨F, q, rfl, h2, h3, h4⟩
        obtain ⟨ja, jc, hjv⟩ := kidv_form F 0 e.ks.len
        exact ⟨F, q, ja, jc, by rw [hjv], hjv, h2, Nat.le_trans hu.size h3, hu.trans (h4.mono hu.size)⟩))
      have ST := Lib.hid (fun (w6 : World) (hb6 : Below w3.heap.size w3 w6) F q (hF : Cloned w6 F e.ks q) (hge : w3.heap.size ≤ F) => (hC3.below hb6).step he hF (by have := hC3.lt; omega) hcnt)
      have OLD := Lib.hid (fun (w6 : World) (hb6 : Below w3.heap.size w3 w6) => (hC3.below hb6).old (by have := HNL.out; omega))
      have KP := Lib.hid (fun (w6 : World) (hb6 : Below w3.heap.size w3 w6) => cells5 ((hb6.block _ (by omega)).trans r3))
      have BB := Lib.hid (fun (w6 : World) (hb6 : Below w3.heap.size w3 w6) => (HB.out.trans (But.of_below g hB3)).trans (But.of_below g hb6))
      obtain ⟨y0, y1, y2, y3, y4⟩ := cells5 r3
      have HW3 := Lib.hid hw3.symm
      have hiI : (i : Int) < (n : Int) := by omega
      have hi0 : (0 : Int) ≤ (i : Int) := by omega
      obtain ⟨ea, eb, ek, em, eks⟩ := e
      simp only at x0 x1 x2 x3 y0 y1 y2 y3 hK hcnt CL ST KP HW3 hsm
      have HE := Lib.hid he
      obtain ⟨X, hX⟩ : ∃ X, wr.heap.size = X := ⟨_, rfl⟩
      rw [hX] at y0 y1 y2 y3 y4 KP
      have HX := Lib.hid hX
      clear hw3 r3 hs3 hC3 hB3 he hK hcnt hlw hb HC
      go_upto_region 5 with fail
      rw [HW3.out]
      go_region_with (go_at_call 26; go_loud (with_reducible refine (CL.out w3.drew ((Below.refl _ _).drew)).mono ?_; rintro e w6 ⟨F, q, ja, jc, rfl, hjv, hF, hge, hB6⟩; obtain ⟨k0, k1, k2, k3, k4⟩ := KP.out w6 hB6; obtain ⟨o0, o1, o2, o3, o4, of⟩ := OLD.out w6 hB6; have E1 := ST.out w6 hB6 F q hF hge; have E2 := (BB.out w6 hB6).trans (s5o_but w6 g (i * 5) ⟨ea, eb, ek, em, kidv F 0 eks.len⟩); rw [hjv] at E1 E2; obtain ⟨wn, hwn⟩ : ∃ wn, s5o w6 g (i * 5) ⟨ea, eb, ek, em, .slice ja eks.len jc⟩ = wn := ⟨_, rfl⟩; rw [hwn] at E1 E2; simp only [s5o] at hwn; have HWN := Lib.hid hwn; have E1 := Lib.hid E1; have E2 := Lib.hid E2; have f0 := of (i * 5); have f1 := of (i * 5 + 1); have f2 := of (i * 5 + 2); have f3 := of (i * 5 + 3); have f4 := of (i * 5 + 4); clear of hwn hF hge hB6 hjv))
      all_goals
        rw [HWN.out]
        clear k0 k1 k2 k3 k4 o0 o1 o2 o3 o4 f0 f1 f2 f3 f4 x0 x1 x2 x3 x4 y0 y1 y2 y3 y4
        go_wp2_with fail
        go_roundw
      all_goals
        first
        | exact ⟨i + 1, by go_num, by omega, E1, E2⟩
        | (simp only [intOf]; omega)
set_option maxRecDepth 100000 in
set_option maxHeartbeats 4000000 in
theorem entry_sort (v : Value) (l : List En) (lim : Nat) (W : World) (h : RowN W lim v l) (hlim : lim ≤ W.heap.size) (hn : l.length ≤ 100000) (hw : ∀ e ∈ l, e.ks.cnt ≤ 1048576) :
    Calls Try.prog 29 #[v] W fun e w' => ∃ g, e = .returned (.slice (some ⟨g, 0, none⟩) l.length l.length) ∧ W.heap.size ≤ g ∧ RowN w' w'.heap.size (.slice (some ⟨g, 0, none⟩) l.length l.length) (sortN l) ∧ Below W.heap.size W w' := by
  have C := Lib.hid (e_sorter v l lim W h hlim hn hw)
  obtain ⟨p, c, rfl, hlc, hcm⟩ := h.form
  clear h hlim hn hw hlc hcm
  go_enter Try.func29, Try.ntmps29
  go_wp2_with fail
  refine C.out.mono ?_
  rintro e w' ⟨g, rfl, hg, hr, hb⟩
  have h1 := Lib.hid hr
  have h2 := Lib.hid hb
  clear hr hb C
  go_wp2_with fail
  go_ret
  exact ⟨g, rfl, hg, h1.out, h2.out⟩
end Go.Proofs.Ytmbcfijhlpeddaa
/- A map of the call's own from keys of two ints to descriptors. -/
namespace Go.Proofs.Ytmbcfijhlpeddaa
open Go.ChangeShapes Go.WideShapes Go.ChangeAt Go.RowKit
set_option linter.unusedVariables false
open Go.WideMaps Go.MapKept Go.WideElems Go.ChangeMaps
set_option linter.unusedSimpArgs false
section
variable {P : Program} {k e t : TypeId}
theorem mk_there (K : KeyLaw P k) (ht : P.underlying t = some (.map k e)) {w : World} {b clock : Nat} {es : Array MapEntry} (hb : w.heap[b]? = some (.map es clock)) (hk : ∀ x ∈ es.toList, ∃ l, keyOf P k x.key = some l) {key : Value} {kl : Lit} (hkey : keyOf P k key = some kl)
    {j : Nat} {e0 : MapEntry} (hj : es.toList[j]? = some e0) (he : e0.key = key) (hu : ∀ (i : Nat) x, es.toList[i]? = some x → x.key = key → i = j) :
    (Instr.lookup t (.map (some b)) key true).run P w = .ok (.tuple #[e0.val, .bool true]) w := by
  rcases K.find w hkey es.toList hk with ⟨_, h2⟩ | ⟨i, x, h1, h2, h3⟩
  · exact absurd he (h2 e0 (List.mem_of_getElem? hj))
  · obtain rfl : i = j := hu i x h2 h3
    rw [hj] at h2
    cases h2
    simp [Instr.lookup, run_underlying ht, MapKept.run_getObj_map hb, K.check w es.isEmpty hkey, h1, Result.andThen]
theorem mk_gone (K : KeyLaw P k) (ht : P.underlying t = some (.map k e)) {z : Value} (hz : ∀ u : World, (zeroValue e).run P u = .ok z u) {w : World} {b clock : Nat} {es : Array MapEntry} (hb : w.heap[b]? = some (.map es clock))
    (hk : ∀ x ∈ es.toList, ∃ l, keyOf P k x.key = some l) {key : Value} {kl : Lit} (hkey : keyOf P k key = some kl) (hne : ∀ x ∈ es.toList, x.key ≠ key) :
    (Instr.lookup t (.map (some b)) key true).run P w = .ok (.tuple #[z, .bool false]) w ∧
    ∀ val, (Instr.mapUpdate t (.map (some b)) key val).run P w = .ok () (setBlock w b (.map (es.push ⟨key, val, clock⟩) (clock + 1))) := by
  rcases K.find w hkey es.toList hk with ⟨h1, h2⟩ | ⟨j, e0, h1, h2, h3⟩
  · constructor
    · simp [Instr.lookup, run_underlying ht, MapKept.run_getObj_map hb, K.check w es.isEmpty hkey, h1, hz, Result.andThen]
    · intro val
      simp [Instr.mapUpdate, run_underlying ht, MapKept.run_getObj_map hb, K.check w false hkey, h1, MapKept.run_setObj_map _ hb, Result.andThen, setBlock]
  · exact absurd h3 (hne e0 (List.mem_of_getElem? h2))
theorem mk_none (K : KeyLaw P k) (ht : P.underlying t = some (.map k e)) {z : Value} (hz : ∀ u : World, (zeroValue e).run P u = .ok z u) (w : World) {key : Value} {kl : Lit} (hkey : keyOf P k key = some kl) :
    (Instr.lookup t (.map none) key true).run P w = .ok (.tuple #[z, .bool false]) w := by
  rcases K.find w hkey [] (fun x hx => by cases hx) with ⟨h1, h2⟩ | ⟨j, e0, h1, h2, h3⟩
  · simp [Instr.lookup, run_underlying ht, K.check w _ hkey, h1, hz, Result.andThen]
  · simp at h2
end
theorem laid_prog' : laidOutB Try.prog = true := by kernel_rfl
theorem key_law : KeyLaw Try.prog 24 := deep_law_laid laid_prog' (m := 10) (by decide) (of_decide_eq_true (by kernel_rfl)) (by kernel_rfl) (by kernel_rfl)
def kv (a b : Int) : Value := .agg #[.int .i64 a, .int .i64 b]
theorem kv_inj {a b a' b' : Int} (h : kv a b = kv a' b') : a = a' ∧ b = b' := by
  unfold kv at h
  simpa using h
theorem keyLits_i64' {d : Nat} {t : TypeId} {n : Int} (hu : Try.prog.underlying t = some (.int .i64)) (hn : -9223372036854775808 ≤ n ∧ n ≤ 9223372036854775807) : Try.prog.keyLits (d + 1) t [.int .i64 n] = some [.int .i64 n] := by
  have hw : (Lit.int .i64 n).wf = true := by simp [Lit.wf, IntKind.min, IntKind.max, IntKind.signed, IntKind.bits]; omega
  unfold Program.keyLits
  rw [hu]
  simp [hw]
theorem kv_key (a b : Int) (ha : -9223372036854775808 ≤ a ∧ a ≤ 9223372036854775807) (hb : -9223372036854775808 ≤ b ∧ b ≤ 9223372036854775807) : ∃ l, keyOf Try.prog 24 (kv a b) = some l := by
  have hk : Try.prog.keyType 24 = true := by kernel_rfl
  have hc : Try.prog.cellsOf 24 = 2 := by kernel_rfl
  have hi : Try.prog.cellsOf 3 = 1 := by kernel_rfl
  obtain ⟨m, hm⟩ : ∃ m, Try.prog.types.size = m + 1 := ⟨Try.prog.types.size - 1, by have : 0 < Try.prog.types.size := of_decide_eq_true (by kernel_rfl); omega⟩
  have k1 := keyLits_i64' (d := m) Try.underlying3 ha
  have k2 := keyLits_i64' (d := m) Try.underlying3 hb
  have hf : (kv a b).formed Try.prog 24 = true := by
    unfold kv Value.formed
    simp [Try.underlying24, hc]
  have hL : Try.prog.keyLits (Try.prog.types.size + 1) 24 (kv a b).cells.toList = some [.int .i64 a, .int .i64 b] := by
    rw [hm]
    unfold Program.keyLits
    rw [Try.underlying24]
    simp [kv, Value.cells, hc, hi, k1, k2]
  refine ⟨.string (keyBytes [.int .i64 a, .int .i64 b]), ?_⟩
  unfold keyOf
  rw [Try.underlying24]
  simp only [hk, hf, hL, Bool.and_self, if_true, Option.map_some]
theorem zero_desc (u : World) : (zeroValue 34).run Try.prog u = .ok (.agg #[.int .i64 0, .int .i64 0, .slice none 0 0]) u := by kernel_rfl
def En.inr' (e : En) : Prop := (-9223372036854775808 ≤ e.a ∧ e.a ≤ 9223372036854775807) ∧ (-9223372036854775808 ≤ e.b ∧ e.b ≤ 9223372036854775807)
/-- The map's entries: each with its number. -/
def mEnt (j : Nat) (p : P6) : MapEntry := ⟨kv p.a p.b, .agg #[.int .i64 p.k, .int .i64 p.n, p.v], j⟩
def mEnts : Nat → List P6 → List MapEntry
  | _, [] => []
  | j, p :: l => mEnt j p :: mEnts (j + 1) l
theorem mEnts_len : ∀ (j : Nat) (l : List P6), (mEnts j l).length = l.length
  | _, [] => rfl
  | j, p :: l => by simp [mEnts, mEnts_len (j + 1) l]
theorem mEnts_get : ∀ (j : Nat) (l : List P6) (i : Nat), (mEnts j l)[i]? = l[i]?.map (mEnt (j + i))
  | _, [], _ => by simp [mEnts]
  | j, p :: l, 0 => rfl
  | j, p :: l, i + 1 => by
    rw [mEnts, List.getElem?_cons_succ, List.getElem?_cons_succ, mEnts_get (j + 1) l i, show j + 1 + i = j + (i + 1) by omega]
theorem mEnts_snoc (p : P6) : ∀ (j : Nat) (l : List P6), mEnts j (l ++ [p]) = mEnts j l ++ [mEnt (j + l.length) p]
  | j, [] => by simp [mEnts]
  | j, q :: l => by
    rw [List.cons_append, mEnts, mEnts_snoc p (j + 1) l, mEnts, List.length_cons, show j + 1 + l.length = j + (l.length + 1) by omega]
    rfl
/-- Keys, each just once. -/
def Keys (l : List P6) : Prop := ∀ (i j : Nat) (x y : P6), l[i]? = some x → l[j]? = some y → x.a = y.a → x.b = y.b → i = j
/-- The key's entry; or there is none. -/
def hasK (l : List P6) (a b : Int) : Prop := ∃ p ∈ l, p.a = a ∧ p.b = b
theorem map_there {l : List P6} (hw : ∀ p ∈ l, p.x.inr') (hK : Keys l) {p : P6} (hp : p ∈ l) (w : World) (g : Nat) (hg : w.heap[g]? = some (.map (mEnts 0 l).toArray l.length)) :
    (Instr.lookup 55 (.map (some g)) (kv p.a p.b) true).run Try.prog w = .ok (.tuple #[.agg #[.int .i64 p.k, .int .i64 p.n, p.v], .bool true]) w := by
  obtain ⟨j, hj, rfl⟩ := List.getElem_of_mem hp
  obtain ⟨kl, hkl⟩ := kv_key _ _ (hw _ hp).1 (hw _ hp).2
  have hjj : (mEnts 0 l).toArray.toList[j]? = some (mEnt (0 + j) l[j]) := by
    show (mEnts 0 l)[j]? = _
    rw [mEnts_get, List.getElem?_eq_getElem hj]; rfl
  have := mk_there key_law Try.underlying55 hg (fun x hx => by
    obtain ⟨i, hi⟩ := List.mem_iff_getElem?.1 hx
    have hi' : (mEnts 0 l)[i]? = some x := hi
    rw [mEnts_get] at hi'
    obtain ⟨q, hq, rfl⟩ := Option.map_eq_some_iff.1 hi'
    exact kv_key _ _ (hw q (List.mem_of_getElem? hq)).1 (hw q (List.mem_of_getElem? hq)).2) hkl hjj rfl (fun i x hi hx => by
    have hi' : (mEnts 0 l)[i]? = some x := hi
    rw [mEnts_get] at hi'
    obtain ⟨q, hq, rfl⟩ := Option.map_eq_some_iff.1 hi'
    obtain ⟨e1, e2⟩ := kv_inj hx
    exact hK i j q l[j] hq (List.getElem?_eq_getElem hj) e1 e2)
  exact this
theorem map_gone {l : List P6} (hw : ∀ p ∈ l, p.x.inr') {a b : Int} (ha : -9223372036854775808 ≤ a ∧ a ≤ 9223372036854775807) (hb : -9223372036854775808 ≤ b ∧ b ≤ 9223372036854775807) (hn : ¬ hasK l a b) (w : World) (g : Nat) (hg : w.heap[g]? = some (.map (mEnts 0 l).toArray l.length)) :
    (Instr.lookup 55 (.map (some g)) (kv a b) true).run Try.prog w = .ok (.tuple #[.agg #[.int .i64 0, .int .i64 0, .slice none 0 0], .bool false]) w ∧
    ∀ k n v ks, (Instr.mapUpdate 55 (.map (some g)) (kv a b) (.agg #[.int .i64 k, .int .i64 n, v])).run Try.prog w = .ok () (setBlock w g (.map (mEnts 0 (l ++ [⟨a, b, k, n, v, ks⟩])).toArray (l ++ [(⟨a, b, k, n, v, ks⟩ : P6)]).length)) := by
  obtain ⟨kl, hkl⟩ := kv_key a b ha hb
  have := mk_gone key_law Try.underlying55 zero_desc hg (fun x hx => by
    obtain ⟨i, hi⟩ := List.mem_iff_getElem?.1 hx
    have hi' : (mEnts 0 l)[i]? = some x := hi
    rw [mEnts_get] at hi'
    obtain ⟨q, hq, rfl⟩ := Option.map_eq_some_iff.1 hi'
    exact kv_key _ _ (hw q (List.mem_of_getElem? hq)).1 (hw q (List.mem_of_getElem? hq)).2) hkl (fun x hx he => by
    obtain ⟨i, hi⟩ := List.mem_iff_getElem?.1 hx
    have hi' : (mEnts 0 l)[i]? = some x := hi
    rw [mEnts_get] at hi'
    obtain ⟨q, hq, rfl⟩ := Option.map_eq_some_iff.1 hi'
    obtain ⟨e1, e2⟩ := kv_inj he
    exact hn ⟨q, List.mem_of_getElem? hq, e1, e2⟩)
  refine ⟨this.1, fun k n v ks => ?_⟩
  have h2 := this.2 (.agg #[.int .i64 k, .int .i64 n, v])
  have e : (mEnts 0 (l ++ [⟨a, b, k, n, v, ks⟩])).toArray = (mEnts 0 l).toArray.push ⟨kv a b, .agg #[.int .i64 k, .int .i64 n, v], l.length⟩ := by
    apply Array.ext'
    rw [Array.toList_push, mEnts_snoc, Nat.zero_add]
    rfl
  rw [e, List.length_append, List.length_singleton]
  exact h2
theorem map_nil (a b : Int) (ha : -9223372036854775808 ≤ a ∧ a ≤ 9223372036854775807) (hb : -9223372036854775808 ≤ b ∧ b ≤ 9223372036854775807) (w : World) :
    (Instr.lookup 55 (.map none) (kv a b) true).run Try.prog w = .ok (.tuple #[.agg #[.int .i64 0, .int .i64 0, .slice none 0 0], .bool false]) w := by
  obtain ⟨kl, hkl⟩ := kv_key a b ha hb
  exact mk_none key_law Try.underlying55 zero_desc w hkl
end Go.Proofs.Ytmbcfijhlpeddaa
/- wmap: New, put. -/
namespace Go.Proofs.Ytmbcfijhlpeddaa
open Go.ChangeShapes Go.WideShapes Go.ChangeAt Go.RowKit
set_option linter.unusedVariables false
open Go.WideMaps Go.MapKept Go.WideElems Go.ChangeMaps
set_option linter.unusedSimpArgs false
attribute [local go_sem ↓] Go.wp_at_zero Go.wp_at_succ
/-- What the map keeps of an element: kids in a block of their own. -/
def ClM (w : World) (L : Nat) (g : Option Nat) (p : P6) : Prop := ∃ F q, p.v = kidv F 0 p.ks.len ∧ Cloned w F p.ks q ∧ L ≤ F ∧ g ≠ some F ∧ p.ks.cnt ≤ 1048576
theorem ClM.keep {w w' : World} {L : Nat} {g : Option Nat} {p : P6} (h : ClM w L g p) (hz : w.heap.size ≤ w'.heap.size) (hb : ∀ X, X < w.heap.size → L ≤ X → g ≠ some X → w'.heap[X]? = w.heap[X]?) : ClM w' L g p := by
  obtain ⟨F, q, hv, hC, h1, h2, h3⟩ := h
  exact ⟨F, q, hv, hC.below (hb F hC.blk h1 h2) hz, h1, h2, h3⟩
theorem ClM.kids {w : World} {L : Nat} {g : Option Nat} {p : P6} (h : ClM w L g p) : Kids w w.heap.size p.v p.ks := by
  obtain ⟨F, q, hv, hC, _, _, hc⟩ := h
  rw [hv]
  exact hC.kids hC.blk hc
/-- A map at M, and what is known. -/
structure MapS (w : World) (M L : Nat) (g : Option Nat) (vs : List P6) : Prop where
  m : w.heap[M]? = some (.cells #[.map g] 57 (0, 0))
  e : (g = none ∧ vs = []) ∨ ∃ G, g = some G ∧ G ≠ M ∧ w.heap[G]? = some (.map (mEnts 0 vs).toArray vs.length)
  k : ∀ p ∈ vs, ClM w L g p
  i : ∀ p ∈ vs, p.x.inr'
  d : Keys vs
  l : M < L ∧ ∀ G, g = some G → L ≤ G
theorem MapS.lt {w : World} {M L : Nat} {g : Option Nat} {vs : List P6} (h : MapS w M L g vs) : M < w.heap.size := by
  by_cases hl : M < w.heap.size
  · exact hl
  · have := h.m; rw [Array.getElem?_eq_none (by omega)] at this; cases this
theorem MapS.below {w w' : World} {M L : Nat} {g : Option Nat} {vs : List P6} (h : MapS w M L g vs) (hb : Below w.heap.size w w') : MapS w' M L g vs := by
  refine ⟨(hb.block _ h.lt).trans h.m, ?_, fun p hp => (h.k p hp).keep hb.size (fun X hX _ _ => hb.block X hX), h.i, h.d, h.l⟩
  rcases h.e with h1 | ⟨G, h1, h2, h3⟩
  · exact .inl h1
  · refine .inr ⟨G, h1, h2, (hb.block G ?_).trans h3⟩
    by_cases hl : G < w.heap.size
    · exact hl
    · rw [Array.getElem?_eq_none (by omega)] at h3; cases h3
/-- While nothing is known the bound may be raised. -/
theorem MapS.lift {w : World} {M L L' : Nat} (h : MapS w M L none []) (hl : L ≤ L') : MapS w M L' none [] := ⟨h.m, h.e, (fun p hp => by cases hp), h.i, h.d, ⟨Nat.lt_of_lt_of_le h.l.1 hl, fun G e => by cases e⟩⟩
/-- A block below the bound, but M, may be written. -/
theorem MapS.but {w w' : World} {M L B : Nat} {g : Option Nat} {vs : List P6} (h : MapS w M L g vs) (hb : But w w' B) (hB : B < L) (hM : B ≠ M) : MapS w' M L g vs := by
  refine ⟨(hb.heap h.lt (fun e => hM e.symm)).trans h.m, ?_, fun p hp => (h.k p hp).keep hb.z (fun X hX hL _ => hb.heap hX (by omega)), h.i, h.d, h.l⟩
  rcases h.e with h1 | ⟨G, h1, h2, h3⟩
  · exact .inl h1
  · refine .inr ⟨G, h1, h2, (hb.heap ?_ (by have := h.l.2 G h1; omega)).trans h3⟩
    by_cases hl : G < w.heap.size
    · exact hl
    · rw [Array.getElem?_eq_none (by omega)] at h3; cases h3
/-- All but the map is as it was. -/
structure MKeep (w w' : World) (M : Nat) (g : Option Nat) : Prop where
  z : w.heap.size ≤ w'.heap.size
  o : ∀ X, X < w.heap.size → X ≠ M → g ≠ some X → w'.heap[X]? = w.heap[X]?
  b : ∀ H, H ≤ M → (∀ G, g = some G → H ≤ G) → H ≤ w.heap.size → Below H w w'
theorem MKeep.of_below {w w' : World} (M : Nat) (g : Option Nat) (h : Below w.heap.size w w') : MKeep w w' M g := ⟨h.size, fun X hX _ _ => h.block X hX, fun H _ _ h2 => h.mono h2⟩
theorem MKeep.trans {w w' w'' : World} {M : Nat} {g : Option Nat} (h : MKeep w w' M g) (k : MKeep w' w'' M g) : MKeep w w'' M g :=
  ⟨Nat.le_trans h.z k.z, fun X hX h1 h2 => (k.o X (by have := h.z; omega) h1 h2).trans (h.o X hX h1 h2), fun H h1 h2 h3 => (h.b H h1 h2 h3).trans (k.b H h1 h2 (by have := h.z; omega))⟩
/-- What a put leaves: the same, or one more. -/
def PutR (vs vs' : List P6) (a b k n : Int) (ks : Fo) (fresh : Bool) : Prop := (fresh = false ∧ vs' = vs ∧ hasK vs a b) ∨ (fresh = true ∧ ¬ hasK vs a b ∧ ∃ v', vs' = vs ++ [⟨a, b, k, n, v', ks⟩])
theorem setBlock_heap {w : World} {b : Nat} {o : Obj} {X : Nat} (h : X ≠ b) : (setBlock w b o).heap[X]? = w.heap[X]? := by
  unfold setBlock
  rw [Array.getElem?_setIfInBounds, if_neg (fun e => h e.symm)]
theorem setBlock_at {w : World} {b : Nat} {o : Obj} (h : b < w.heap.size) : (setBlock w b o).heap[b]? = some o := by
  unfold setBlock
  rw [Array.getElem?_setIfInBounds, if_pos rfl, if_pos h]
theorem setBlock_size {w : World} {b : Nat} {o : Obj} : (setBlock w b o).heap.size = w.heap.size := by
  unfold setBlock; simp
theorem setBlock_below {w : World} {b H : Nat} {o : Obj} (h : H ≤ b) : Below H w (setBlock w b o) := ⟨rfl, rfl, rfl, by rw [setBlock_size]; exact Nat.le_refl _, fun X hX => setBlock_heap (by omega)⟩
theorem keys_snoc {vs : List P6} {p : P6} (h : Keys vs) (hn : ¬ hasK vs p.a p.b) : Keys (vs ++ [p]) := fun i j x y hi hj e1 e2 => by
  have l1 := (List.getElem?_eq_some_iff.1 hi).1
  have l2 := (List.getElem?_eq_some_iff.1 hj).1
  rw [List.length_append, List.length_singleton] at l1 l2
  by_cases h1 : i < vs.length
  · rw [List.getElem?_append_left h1] at hi
    by_cases h2 : j < vs.length
    · rw [List.getElem?_append_left h2] at hj
      exact h i j x y hi hj e1 e2
    · rw [List.getElem?_append_right (by omega), show j - vs.length = 0 by omega] at hj
      simp at hj; subst hj
      exact absurd ⟨x, List.mem_of_getElem? hi, e1, e2⟩ hn
  · rw [List.getElem?_append_right (by omega), show i - vs.length = 0 by omega] at hi
    simp at hi; subst hi
    by_cases h2 : j < vs.length
    · rw [List.getElem?_append_left h2] at hj
      exact absurd ⟨y, List.mem_of_getElem? hj, e1.symm, e2.symm⟩ hn
    · omega
/-- The map with one more. -/
theorem MapS.more {w : World} {M L G F : Nat} {vs : List P6} {a b k n : Int} {ks : Fo} {q : List Nd} (h : MapS w M L (some G) vs) (ha : -9223372036854775808 ≤ a ∧ a ≤ 9223372036854775807) (hb : -9223372036854775808 ≤ b ∧ b ≤ 9223372036854775807) (hn : ¬ hasK vs a b) (hC : Cloned w F ks q) (h1 : L ≤ F) (h2 : F ≠ G) (hc : ks.cnt ≤ 1048576) :
    MapS (setBlock w G (.map (mEnts 0 (vs ++ [⟨a, b, k, n, kidv F 0 ks.len, ks⟩])).toArray (vs ++ [(⟨a, b, k, n, kidv F 0 ks.len, ks⟩ : P6)]).length)) M L (some G) (vs ++ [⟨a, b, k, n, kidv F 0 ks.len, ks⟩]) := by
  obtain ⟨G', e1, hGM, hG⟩ := h.e.resolve_left (fun e => by cases e.1)
  cases e1
  have hlt : G < w.heap.size := by
    by_cases hl : G < w.heap.size
    · exact hl
    · rw [Array.getElem?_eq_none (by omega)] at hG; cases hG
  refine ⟨(setBlock_heap (fun e => hGM e.symm)).trans h.m, .inr ⟨G, rfl, hGM, setBlock_at hlt⟩, fun p hp => ?_, fun p hp => ?_, keys_snoc h.d hn, h.l⟩
  · have hcm : ClM w L (some G) p := by
      rcases List.mem_append.1 hp with hp | hp
      · exact h.k p hp
      · rw [List.mem_singleton] at hp
        subst hp
        exact ⟨F, q, rfl, hC, h1, fun e => h2 (Option.some.inj e).symm, hc⟩
    exact hcm.keep (by rw [setBlock_size]; exact Nat.le_refl _) (fun X _ _ hX => setBlock_heap (fun e => hX (by rw [e])))
  · rcases List.mem_append.1 hp with hp | hp
    · exact h.i p hp
    · rw [List.mem_singleton] at hp
      subst hp
      exact ⟨ha, hb⟩
set_option maxRecDepth 100000 in
set_option maxHeartbeats 4000000 in
theorem wmap_new (W : World) : Calls Try.prog 8 #[] W fun e w' => e = .returned (.pointer (some ⟨W.heap.size, 0, none⟩)) ∧ MapS w' W.heap.size (W.heap.size + 1) none [] ∧ Below W.heap.size W w' := by
  have hn := heap_alloc_new W (.cells #[.map none] 57)
  have hb : Below W.heap.size W (W.alloc (.cells #[.map none] 57)) := (Below.refl _ _).alloc (Nat.le_refl _) _
  have H1 := Lib.hid hn
  have H2 := Lib.hid hb
  clear hn hb
  go_enter Try.func8, Try.ntmps8
  go_wp2_with fail
  go_ret
  exact ⟨rfl, ⟨H1.out, .inl ⟨rfl, rfl⟩, (fun p hp => by cases hp), (fun p hp => by cases hp), (fun i j x y hi => by simp at hi), ⟨Nat.lt_succ_self _, fun G e => by cases e⟩⟩, H2.out⟩
end Go.Proofs.Ytmbcfijhlpeddaa
/- wmap: put. -/
namespace Go.Proofs.Ytmbcfijhlpeddaa
open Go.ChangeShapes Go.WideShapes Go.ChangeAt Go.RowKit
set_option linter.unusedVariables false
open Go.WideMaps Go.MapKept Go.WideElems Go.ChangeMaps
set_option linter.unusedSimpArgs false
attribute [local go_sem ↓] Go.wp_at_zero Go.wp_at_succ
theorem row1c {w : World} {M : Nat} {u : Value} {T : TypeId} (h : w.heap[M]? = some (.cells #[u] T (0, 0))) : w.cell? ⟨M, 0, none⟩ = some u ∧ w.frozen? ⟨M, 0, none⟩ = false :=
  ⟨by rw [cell_of_row _ _ _ _ _ _ h]; rfl, frozen_of_row _ _ _ _ _ h⟩
/-- An empty map is laid: the call's own. -/
theorem MapS.make {w : World} {M L : Nat} (h : MapS w M L none []) (hL : L ≤ w.heap.size) : MapS ((w.alloc (.map #[] 0)).setCell ⟨M, 0, none⟩ (.map (some w.heap.size))) M L (some w.heap.size) [] := by
  have hlt := h.lt
  have h1 : (w.alloc (.map #[] 0)).heap[M]? = some (.cells #[.map none] 57 (0, 0)) := (Below.heap_alloc _ _ _ hlt).trans h.m
  refine ⟨?_, .inr ⟨_, rfl, by omega, ?_⟩, (fun p hp => by cases hp), (fun p hp => by cases hp), (fun i j x y hi => by simp at hi), ⟨h.l.1, fun G e => by cases e; exact hL⟩⟩
  · have := bset h1 (o := 0) (.map (some w.heap.size))
    simpa using this
  · rw [heap_setCell_other _ ⟨M, 0, none⟩ _ _ (show w.heap.size ≠ M by omega)]
    exact heap_alloc_new _ _
set_option maxRecDepth 100000 in
set_option maxHeartbeats 8000000 in
/-- One that is there. -/
theorem put_there {L : Nat} (M : Nat) (g : Option Nat) (vs : List P6) (p0 : P6) (a b k n : Int) (v : Value) (W : World) (hS : MapS W M L g vs) (hp : p0 ∈ vs) (ea : p0.a = a) (eb : p0.b = b) (hv : ∃ p m c, v = .slice p m c) :
    Calls Try.prog 23 #[.pointer (some ⟨M, 0, none⟩), .agg #[.int .i64 a, .int .i64 b, .int .i64 k, .int .i64 n, v]] W fun e w' => e = .returned (.bool false) ∧ Below W.heap.size W w' := by
  obtain ⟨vp, vm, vc, rfl⟩ := hv
  obtain ⟨w0, hw0, r0, hB0, hs0⟩ := box5 W a b k n (.slice vp vm vc) 36
  have hS0 := hS.below hB0
  obtain ⟨G, rfl, hGM, hG⟩ := hS0.e.resolve_left (fun e => by rw [e.2] at hp; cases hp)
  have hl := fun w h => map_there hS.i hS.d hp w G h
  subst ea eb
  obtain ⟨F, q, hpv, _, _, _, _⟩ := hS.k _ hp
  obtain ⟨ja, jc, hj⟩ := kidv_form F 0 p0.ks.len
  rw [hj] at hpv
  rw [hpv] at hl
  unfold kv at hl
  have L1 := hl w0 hG
  have L2 : (Instr.lookup 55 (.map (some G)) (.agg #[.int .i64 p0.a, .int .i64 p0.b]) true).run Try.prog w0.drew = .ok (.tuple #[.agg #[.int .i64 p0.k, .int .i64 p0.n, .slice ja p0.ks.len jc], .bool true]) w0.drew := hl w0.drew hG
  have L3 : (Instr.lookup 55 (.map (some G)) (.agg #[.int .i64 p0.a, .int .i64 p0.b]) true).run Try.prog (w0.alloc (.cells #[.int .i64 0, .int .i64 0, .slice none 0 0] 34)).drew = .ok (.tuple #[.agg #[.int .i64 p0.k, .int .i64 p0.n, .slice ja p0.ks.len jc], .bool true]) (w0.alloc (.cells #[.int .i64 0, .int .i64 0, .slice none 0 0] 34)).drew := hl _ ((Below.heap_alloc _ _ _ (by
    by_cases hlt : G < w0.heap.size
    · exact hlt
    · rw [Array.getElem?_eq_none (by omega)] at hG; cases hG)).trans hG)
  have lX : W.heap.size < w0.heap.size := by omega
  have lM := hS0.lt
  obtain ⟨x0, x1, x2, x3, x4⟩ := cells5 r0
  obtain ⟨m0, mf⟩ := row1c hS0.m
  have HW0 := Lib.hid hw0.symm
  have KX := Lib.hid (fun w' (hb : Below w0.heap.size w0 w') => hB0.trans (hb.mono hB0.size))
  obtain ⟨X, hX⟩ : ∃ X, W.heap.size = X := ⟨_, rfl⟩
  rw [hX] at x0 x1 x2 x3 x4 lX
  clear hS hS0 hp hG hl hw0 r0 hB0 hs0 hj hpv
  go_enter Try.func23, Try.ntmps23
  go_upto_region 1 with fail
  rw [HW0.out]
  go_region
  all_goals
    go_wp2_with fail
    go_ret
    first
    | exact ⟨rfl, KX.out _ (((Below.refl _ _).drew).alloc (by simp) _)⟩
    | exact ⟨rfl, KX.out _ (((Below.refl _ _).alloc (Nat.le_refl _) _).drew)⟩
    | exact ⟨rfl, KX.out _ (((((Below.refl _ _).alloc (Nat.le_refl _) _).drew.setCell (p := ⟨w0.heap.size, 0, none⟩) (Nat.le_refl _) _).setCell (p := ⟨w0.heap.size, 1, none⟩) (Nat.le_refl _) _).setCell (p := ⟨w0.heap.size, 2, none⟩) (Nat.le_refl _) _)⟩
end Go.Proofs.Ytmbcfijhlpeddaa
