/- load: Sum. -/
import Derived.Test.YtfilbdmenlhoiaaOpr
import Derived.BigQuiet
import Derived.RegionTactic
namespace Go.Proofs.Ytfilbdmenlhoiaa
open Go.ChangeShapes Go.WideShapes Go.ChangeAt Go.RowKit
set_option linter.unusedVariables false
set_option linter.unusedSimpArgs false
/-- A load. -/
structure Ld where
  c : Int
  e : Int
  d : Int
  g : Int
def Ld.ok (x : Ld) : Prop := i64ok x.c ∧ i64ok x.e ∧ i64ok x.d ∧ i64ok x.g
def LdAt (w : World) (lim b o : Nat) (x : Ld) : Prop := b < lim ∧ w.cell? ⟨b, o, none⟩ = some (.int .i64 x.c) ∧ w.cell? ⟨b, o + 1, none⟩ = some (.int .i64 x.e) ∧ w.cell? ⟨b, o + 2, none⟩ = some (.int .i64 x.d) ∧ w.cell? ⟨b, o + 3, none⟩ = some (.int .i64 x.g)
theorem LdAt.below {w w' : World} {lim b o : Nat} {x : Ld} (h : LdAt w lim b o x) (hb : Below lim w w') : LdAt w' lim b o x :=
  ⟨h.1, (hb.cell h.1).trans h.2.1, (hb.cell h.1).trans h.2.2.1, (hb.cell h.1).trans h.2.2.2.1, (hb.cell h.1).trans h.2.2.2.2⟩
/-- A row of loads. -/
def RowL (w : World) (lim : Nat) (v : Value) (l : List Ld) : Prop := ∃ p c, v = .slice p l.length c ∧ l.length ≤ 9223372036854775807 ∧ ∀ (i : Nat) (x : Ld), l[i]? = some x → x.ok ∧ ∃ b o, p = some ⟨b, o, none⟩ ∧ LdAt w lim b (o + i * 4) x
theorem RowL.below {w w' : World} {lim : Nat} {v : Value} {l : List Ld} (h : RowL w lim v l) (hb : Below lim w w') : RowL w' lim v l := by
  obtain ⟨p, c, rfl, hn, hx⟩ := h
  refine ⟨p, c, rfl, hn, fun i x hi => ?_⟩
  obtain ⟨h1, b, o, h2, h3⟩ := hx i x hi
  exact ⟨h1, b, o, h2, h3.below hb⟩
def ladd (s x : Ld) : Ld := ⟨wrap64 (s.c + x.c), wrap64 (s.e + x.e), wrap64 (s.d + x.d), max s.g x.g⟩
def lsum (l : List Ld) : Ld := l.foldl ladd ⟨0, 0, 0, 0⟩
theorem lsum_succ {l : List Ld} {i : Nat} {x : Ld} (h : l[i]? = some x) : lsum (l.take (i + 1)) = ladd (lsum (l.take i)) x := by
  unfold lsum
  rw [List.take_add_one, h, List.foldl_append]
  rfl
theorem wrap_ok (a : Int) : i64ok (wrap64 a) := by unfold i64ok; simp only [wrap64]; omega
theorem wrap_id {a : Int} (h : i64ok a) : wrap64 a = a := by unfold i64ok at h; simp only [wrap64]; omega
theorem ladd_ok {s x : Ld} (hs : s.ok ∧ 0 ≤ s.g) (hx : x.ok) : (ladd s x).ok ∧ 0 ≤ (ladd s x).g := by
  obtain ⟨⟨_, _, _, h4⟩, h5⟩ := hs
  obtain ⟨_, _, _, h6⟩ := hx
  unfold i64ok at h4 h6
  exact ⟨⟨wrap_ok _, wrap_ok _, wrap_ok _, by unfold i64ok; simp only [ladd]; omega⟩, by simp only [ladd]; omega⟩
theorem lsum_ok {l : List Ld} (h : ∀ x ∈ l, x.ok) : (lsum l).ok ∧ 0 ≤ (lsum l).g := by
  have : ∀ (l : List Ld) (s : Ld), (s.ok ∧ 0 ≤ s.g) → (∀ x ∈ l, x.ok) → (l.foldl ladd s).ok ∧ 0 ≤ (l.foldl ladd s).g := by
    intro l
    induction l with
    | nil => intro s hs _; exact hs
    | cons y l ih => intro s hs hl; exact ih _ (ladd_ok hs (hl y (List.mem_cons_self ..))) (fun x hx => hl x (List.mem_cons_of_mem _ hx))
  exact this l _ ⟨⟨by unfold i64ok; simp, by unfold i64ok; simp, by unfold i64ok; simp, by unfold i64ok; simp⟩, Int.le_refl _⟩ h
theorem ladd_zero {s : Ld} (hs : s.ok ∧ 0 ≤ s.g) : ladd s ⟨0, 0, 0, 0⟩ = s := by
  obtain ⟨⟨h1, h2, h3, h4⟩, h5⟩ := hs
  obtain ⟨c, e, d, g⟩ := s
  simp only [ladd, Int.add_zero, wrap_id h1, wrap_id h2, wrap_id h3, Ld.mk.injEq, true_and]
  simp only at h5
  omega
/-- A load as cells, and a block that holds one. -/
def Ld.cs (x : Ld) : Array Value := #[.int .i64 x.c, .int .i64 x.e, .int .i64 x.d, .int .i64 x.g]
def LdB (w : World) (b : Nat) (x : Ld) : Prop := w.heap[b]? = some (.cells #[.int .i64 x.c, .int .i64 x.e, .int .i64 x.d, .int .i64 x.g] 25 (0, 0))
theorem LdB.cells {w : World} {b : Nat} {x : Ld} (h : LdB w b x) : w.cell? ⟨b, 0, none⟩ = some (.int .i64 x.c) ∧ w.cell? ⟨b, 1, none⟩ = some (.int .i64 x.e) ∧ w.cell? ⟨b, 2, none⟩ = some (.int .i64 x.d) ∧ w.cell? ⟨b, 3, none⟩ = some (.int .i64 x.g) ∧ w.frozen? ⟨b, 0, none⟩ = false ∧ w.frozen? ⟨b, 1, none⟩ = false ∧ w.frozen? ⟨b, 2, none⟩ = false ∧ w.frozen? ⟨b, 3, none⟩ = false :=
  ⟨by rw [cell_of_row _ _ _ _ _ _ h]; rfl, by rw [cell_of_row _ _ _ _ _ _ h]; rfl, by rw [cell_of_row _ _ _ _ _ _ h]; rfl, by rw [cell_of_row _ _ _ _ _ _ h]; rfl, frozen_of_row _ _ _ _ _ h, frozen_of_row _ _ _ _ _ h, frozen_of_row _ _ _ _ _ h, frozen_of_row _ _ _ _ _ h⟩
theorem row_set4 {w : World} {g o : Nat} {cs : Array Value} {T : TypeId} {fr : Nat × Nat} (h : w.heap[g]? = some (.cells cs T fr)) (v : Value) : (w.setCell ⟨g, o, none⟩ v).heap[g]? = some (.cells (cs.setIfInBounds o v) T fr) := by
  simp [World.setCell, Array.getElem?_modify, h]
/-- Four cells stored. -/
def u4 (w : World) (b : Nat) (x : Ld) : World := (((w.setCell ⟨b, 0, none⟩ (.int .i64 x.c)).setCell ⟨b, 1, none⟩ (.int .i64 x.e)).setCell ⟨b, 2, none⟩ (.int .i64 x.d)).setCell ⟨b, 3, none⟩ (.int .i64 x.g)
theorem LdB.set0 {w : World} {b : Nat} {x : Ld} (h : LdB w b x) (v : Int) : LdB (w.setCell ⟨b, 0, none⟩ (.int .i64 v)) b ⟨v, x.e, x.d, x.g⟩ := by unfold LdB; rw [row_set4 h]; rfl
theorem LdB.set1 {w : World} {b : Nat} {x : Ld} (h : LdB w b x) (v : Int) : LdB (w.setCell ⟨b, 1, none⟩ (.int .i64 v)) b ⟨x.c, v, x.d, x.g⟩ := by unfold LdB; rw [row_set4 h]; rfl
theorem LdB.set2 {w : World} {b : Nat} {x : Ld} (h : LdB w b x) (v : Int) : LdB (w.setCell ⟨b, 2, none⟩ (.int .i64 v)) b ⟨x.c, x.e, v, x.g⟩ := by unfold LdB; rw [row_set4 h]; rfl
theorem LdB.set3 {w : World} {b : Nat} {x : Ld} (h : LdB w b x) (v : Int) : LdB (w.setCell ⟨b, 3, none⟩ (.int .i64 v)) b ⟨x.c, x.e, x.d, v⟩ := by unfold LdB; rw [row_set4 h]; rfl
theorem LdB.other {w : World} {b g o : Nat} {x : Ld} {v : Value} (h : LdB w b x) (hn : b ≠ g) : LdB (w.setCell ⟨g, o, none⟩ v) b x := (heap_setCell_other w ⟨g, o, none⟩ b v hn).trans h
theorem u4_at {w : World} {b : Nat} {x y : Ld} (h : LdB w b y) : LdB (u4 w b x) b x := by
  unfold LdB u4
  rw [row_set4 (row_set4 (row_set4 (row_set4 h _) _) _) _]; rfl
theorem u4_below {w : World} {b H : Nat} (x : Ld) (h : H ≤ b) : Below H w (u4 w b x) := ((((Below.refl _ _).setCell h _).setCell h _).setCell h _).setCell h _
theorem u4_other {w : World} {b i : Nat} (x : Ld) (h : i ≠ b) : (u4 w b x).heap[i]? = w.heap[i]? := by
  have key : ∀ (u : World) (o : Nat) (v : Value), (u.setCell ⟨b, o, none⟩ v).heap[i]? = u.heap[i]? := fun u o v => heap_setCell_other u ⟨b, o, none⟩ i v h
  unfold u4
  rw [key, key, key, key]
theorem u4_size {w : World} {b : Nat} (x : Ld) : (u4 w b x).heap.size = w.heap.size := by unfold u4; simp
theorem ld_size : (Try.prog.info? 25).map (·.size) = some 4 := by kernel_rfl
/-- A load goes into the block that was made last. -/
theorem wpl_newl {ops : Array Oper} {rest : List Oper} {op : Oper} {a : Act} {W w1 : World} {Q : Exit → Act → World → Prop} {cs z : Array Value} (hgd : op.guard = none) (x y : Operand) (ho : op.op = .store 25 x y)
    (hx : a.eval x = .pointer (some ⟨W.heap.size, 0, none⟩)) (hy : a.eval y = .agg cs) (hst : (Instr.storeAt 25 (.pointer (some ⟨W.heap.size, 0, none⟩)) (.agg cs)).run Try.prog (W.alloc (.cells z 25)) = .ok () w1)
    (h : wpList Try.prog ops Q rest (a.put op.dst undef) w1) : wpList Try.prog ops Q (op :: rest) a (W.alloc (.cells z 25)) := by
  refine wpList_plain hgd fun K hK => ?_
  unfold Oper.wp execOp
  simp only [ho, hx, hy, Sem.run_bind, hst, Result.andThen_ok, Sem.run_pure]
  exact hK _ _ h
set_option maxHeartbeats 2000000 in
theorem wpl_eq4 {ops : Array Oper} {rest : List Oper} {op : Oper} {a : Act} {w : World} {Q : Exit → Act → World → Prop} {x0 x1 x2 x3 : Int} (hgd : op.guard = none) (x y : Operand) (T : TypeId) (ho : op.op = .binOp .eql 25 x y T)
    (hx : a.eval x = .agg #[.int .i64 x0, .int .i64 x1, .int .i64 x2, .int .i64 x3]) (hy : a.eval y = .agg #[.int .i64 0, .int .i64 0, .int .i64 0, .int .i64 0])
    (h : wpList Try.prog ops Q rest (a.put op.dst (.bool (decide (x0 = 0 ∧ x1 = 0 ∧ x2 = 0 ∧ x3 = 0)))) w) : wpList Try.prog ops Q (op :: rest) a w := by
  refine wpList_plain hgd fun K hK => ?_
  have u := Try.underlying25
  have ui := Try.underlying3
  have hk := hK _ _ h
  clear hK h
  unfold Oper.wp execOp
  simp only [ho, hx, hy]
  by_cases h0 : x0 = 0
  · subst h0
    by_cases h1 : x1 = 0
    · subst h1
      by_cases h2 : x2 = 0
      · subst h2
        by_cases h3 : x3 = 0
        · subst h3
          rw [show decide ((0 : Int) = 0 ∧ (0 : Int) = 0 ∧ (0 : Int) = 0 ∧ (0 : Int) = 0) = true by simp] at hk
          simp [go_sem, u, ui]
          exact hk
        · rw [show decide ((0 : Int) = 0 ∧ (0 : Int) = 0 ∧ (0 : Int) = 0 ∧ x3 = 0) = false by simp [h3]] at hk
          simp [go_sem, u, ui, h3]
          exact hk
      · rw [show decide ((0 : Int) = 0 ∧ (0 : Int) = 0 ∧ x2 = 0 ∧ x3 = 0) = false by simp [h2]] at hk
        simp [go_sem, u, ui, h2]
        exact hk
    · rw [show decide ((0 : Int) = 0 ∧ x1 = 0 ∧ x2 = 0 ∧ x3 = 0) = false by simp [h1]] at hk
      simp [go_sem, u, ui, h1]
      exact hk
  · rw [show decide (x0 = 0 ∧ x1 = 0 ∧ x2 = 0 ∧ x3 = 0) = false by simp [h0]] at hk
    simp [go_sem, u, ui, h0]
    exact hk
theorem res_c1 {P : Program} {fn : Func} {p : Tmp} {ty : TypeId} (h : fn.results = #[.cell p ty]) (tmps : Array Value) (w : World) (g : Nat) (t : TypeId) (cs : Array Value) (fr : Nat × Nat) (d : TypeDesc)
    (hp : tmps.getD p undef = .pointer (some ⟨g, 0, none⟩)) (hg : w.heap[g]? = some (.cells cs t fr))
    (hu : P.underlying ty = some d) (hd : (match d with | .struct _ | .array _ _ => true | _ => false) = true) (hi : (P.info? ty).map (·.size) = some cs.size) :
    (results fn tmps).run P w = .ok (.agg cs) w := by
  have e : tmps[p]?.getD undef = .pointer (some ⟨g, 0, none⟩) := by simpa using hp
  simp [results, h, e, asAddr, run_loadVar_row w g t ty cs fr d hg hu hd hi]
set_option maxRecDepth 100000 in
set_option maxHeartbeats 8000000 in
theorem l_sum (v : Value) (l : List Ld) (W : World) (hR : RowL W W.heap.size v l) (hn : l.length ≤ 100000) :
    Calls Try.prog 7 #[v] W fun e w' => e = .returned (.agg #[.int .i64 (lsum l).c, .int .i64 (lsum l).e, .int .i64 (lsum l).d, .int .i64 (lsum l).g]) ∧ Below W.heap.size W w' := by
  obtain ⟨p, c, rfl, -, hx⟩ := hR
  have HX := Lib.hid hx
  have HN := Lib.hid hn
  have OK := Lib.hid (fun i => lsum_ok (l := l.take i) (fun x hx' => by
    obtain ⟨j, hj⟩ := List.mem_iff_getElem?.1 (List.mem_of_mem_take hx')
    exact (hx j x hj).1))
  obtain ⟨R, hR⟩ : ∃ R, W.heap.size = R := ⟨_, rfl⟩
  obtain ⟨w0, hw0⟩ : ∃ w0, (W.alloc (.cells #[.int .i64 0, .int .i64 0, .int .i64 0, .int .i64 0] 25)).alloc (.cells #[.int .i64 0, .int .i64 0, .int .i64 0, .int .i64 0] 25) = w0 := ⟨_, rfl⟩
  have H0 := Lib.hid (show LdB w0 R ⟨0, 0, 0, 0⟩ ∧ LdB w0 (R + 1) ⟨0, 0, 0, 0⟩ ∧ Below R W w0 ∧ w0.heap.size = R + 1 + 1 from by
    subst hR
    have h1 := heap_alloc_new W (.cells #[.int .i64 0, .int .i64 0, .int .i64 0, .int .i64 0] 25)
    have h2 := heap_alloc_new (W.alloc (.cells #[.int .i64 0, .int .i64 0, .int .i64 0, .int .i64 0] 25)) (.cells #[.int .i64 0, .int .i64 0, .int .i64 0, .int .i64 0] 25)
    rw [World.size_alloc, hw0] at h2
    have h3 : w0.heap[W.heap.size]? = some (.cells #[.int .i64 0, .int .i64 0, .int .i64 0, .int .i64 0] 25 (0, 0)) := by
      rw [← hw0]
      exact (((Below.refl _ _).alloc (Nat.le_refl _) _ : Below (W.alloc (.cells #[.int .i64 0, .int .i64 0, .int .i64 0, .int .i64 0] 25)).heap.size (W.alloc (.cells #[.int .i64 0, .int .i64 0, .int .i64 0, .int .i64 0] 25)) _).block _ (by simp)).trans h1
    exact ⟨h3, h2, by rw [← hw0]; exact ((Below.refl _ _).alloc (Nat.le_refl _) _).alloc (by simp) _, by rw [← hw0]; simp⟩)
  have HW := Lib.hid hw0
  clear hw0 hx hn
  go_enter Try.func7, Try.ntmps7
  go_wp2_with fail
  go_loopw [8] (fun x wr => ∃ (i : Nat), x = .int .i64 i ∧ Hid (i ≤ l.length) ∧ Hid (LdB wr (R + 1) (lsum (l.take i))) ∧ Hid (LdB wr R ⟨0, 0, 0, 0⟩) ∧ Hid (Below R W wr)) (fun x _ => l.length - (match x with | .int _ n => n.toNat | _ => 0))
  case atStart =>
    rw [HW.out]
    exact ⟨0, rfl, Lib.hid (Nat.zero_le _), Lib.hid H0.out.2.1, Lib.hid H0.out.1, Lib.hid H0.out.2.2.1⟩
  case round =>
    obtain ⟨i, rfl, HI, HS, HZ, HB⟩ := hrel
    by_cases hi : i < l.length
    · obtain ⟨x, hx⟩ : ∃ x, l[i]? = some x := ⟨_, List.getElem?_eq_getElem hi⟩
      obtain ⟨hok, b, o, rfl, hA⟩ := HX.out i x hx
      rw [hR] at hA
      have hA2 := hA.below HB.out
      obtain ⟨hbl, a0, a1, a2, a3⟩ := hA2
      have hbl2 : b < wr.heap.size := by have := g_lt HS.out; omega
      obtain ⟨w1, hw1⟩ : ∃ w1, wr.alloc (.cells #[.int .i64 x.c, .int .i64 x.e, .int .i64 x.d, .int .i64 x.g] 25) = w1 := ⟨_, rfl⟩
      have hb1 : Below wr.heap.size wr w1 := by rw [← hw1]; exact (Below.refl _ _).alloc (Nat.le_refl _) _
      have HX1 := Lib.hid (show LdB w1 wr.heap.size x by rw [← hw1]; exact heap_alloc_new _ _)
      have HS1 := Lib.hid (show LdB w1 (R + 1) (lsum (l.take i)) from (hb1.block _ (g_lt HS.out)).trans HS.out)
      have HZ1 := Lib.hid (show LdB w1 R ⟨0, 0, 0, 0⟩ from (hb1.block _ (g_lt HZ.out)).trans HZ.out)
      have HB1 := Lib.hid (show Below R W w1 from HB.out.trans (hb1.mono (by have := g_lt HZ.out; omega)))
      have HNE := Lib.hid (show R + 1 < wr.heap.size from g_lt HS.out)
      have hne : ¬ (wr.heap.size = R + 1) := by have := HNE.out; omega
      have hne' : ¬ (R + 1 = wr.heap.size) := by have := HNE.out; omega
      have SP := Lib.hid (lsum_succ hx)
      have OX := Lib.hid hok
      have WR := Lib.hid (show wrap64 ((i : Int) + 1) = ((i + 1 : Nat) : Int) by have := HN.out; simp only [wrap64]; omega)
      obtain ⟨x0, x1, x2, x3, -, -, -, -⟩ := HX1.out.cells
      obtain ⟨s0, s1, s2, s3, f0, f1, f2, f3⟩ := HS1.out.cells
      have ST := run_storeAt_new (P := Try.prog) wr 25 #[.int .i64 0, .int .i64 0, .int .i64 0, .int .i64 0] #[.int .i64 x.c, .int .i64 x.e, .int .i64 x.d, .int .i64 x.g] ld_size rfl (by simp [Value.oneCell'])
      rw [hw1] at ST
      have ST := Lib.hid ST
      have HW1 := Lib.hid hw1
      clear hx hA hb1 hok hw1
      by_cases hz : x.c = 0 ∧ x.e = 0 ∧ x.d = 0 ∧ x.g = 0
      · obtain ⟨z0, z1, z2, z3⟩ := hz
        go_wp2_with (refine wpl_newl rfl _ _ rfl rfl rfl ST.out ?_)
        have hw2 : wr.alloc (.cells #[.int .i64 0, .int .i64 0, .int .i64 0, .int .i64 0] 25) = w1 := by rw [← HW1.out, z0, z1, z2, z3]
        rw [hw2]
        go_roundw
        case rel =>
          refine ⟨i + 1, by rw [WR.out], Lib.hid hi, Lib.hid ?_, HZ1, HB1⟩
          have e : x = ⟨0, 0, 0, 0⟩ := by cases x; simp only at z0 z1 z2 z3; subst z0 z1 z2 z3; rfl
          rw [SP.out, e, ladd_zero (OK.out i)]
          exact HS1.out
        case measure => simp [WR.out]; omega
      · have hz1 : ¬ (x.c = 0 ∧ x.e = 0 ∧ x.d = 0 ∧ x.g = 0) := hz
        have hdz : decide (x.c = 0 ∧ x.e = 0 ∧ x.d = 0 ∧ x.g = 0) = false := by simp only [decide_eq_false_iff_not]; exact hz1
        obtain ⟨sc, se, sd, sg, hs⟩ : ∃ sc se sd sg, lsum (l.take i) = ⟨sc, se, sd, sg⟩ := ⟨_, _, _, _, rfl⟩
        rw [hs] at HS1 s0 s1 s2 s3
        simp only at s0 s1 s2 s3
        have HSS := Lib.hid hs
        clear hs
        go_upto_region 7 with (first | refine wpl_newl rfl _ _ rfl rfl rfl ST.out ?_ | refine wpl_eq4 rfl _ _ _ rfl rfl rfl ?_)
        obtain ⟨w2, hw2⟩ : ∃ w, w1.setCell ⟨R + 1, 0, none⟩ (.int .i64 (wrap64 (sc + x.c))) = w := ⟨_, rfl⟩
        have HS2 := Lib.hid (HS1.out.set0 (wrap64 (sc + x.c)))
        have HX2 := Lib.hid (HX1.out.other (o := 0) (v := .int .i64 (wrap64 (sc + x.c))) hne)
        have HZ2 := Lib.hid (HZ1.out.other (g := R + 1) (o := 0) (v := .int .i64 (wrap64 (sc + x.c))) (by omega))
        have HB2 := Lib.hid (HB1.out.setCell (p := ⟨R + 1, 0, none⟩) (Nat.le_succ R) (.int .i64 (wrap64 (sc + x.c))))
        rw [hw2] at HS2 HX2 HZ2 HB2
        simp only at HS2
        rw [hw2]
        clear hw2 x0 x1 x2 x3 s0 s1 s2 s3 f0 f1 f2 f3
        obtain ⟨x0, x1, x2, x3, -, -, -, -⟩ := HX2.out.cells
        obtain ⟨s0, s1, s2, s3, f0, f1, f2, f3⟩ := HS2.out.cells
        simp only at s0 s1 s2 s3
        go_upto_region 8 with (first | refine wpl_newl rfl _ _ rfl rfl rfl ST.out ?_ | refine wpl_eq4 rfl _ _ _ rfl rfl rfl ?_)
        obtain ⟨w3, hw3⟩ : ∃ w, w2.setCell ⟨R + 1, 1, none⟩ (.int .i64 (wrap64 (se + x.e))) = w := ⟨_, rfl⟩
        have HS3 := Lib.hid (HS2.out.set1 (wrap64 (se + x.e)))
        have HX3 := Lib.hid (HX2.out.other (o := 1) (v := .int .i64 (wrap64 (se + x.e))) hne)
        have HZ3 := Lib.hid (HZ2.out.other (g := R + 1) (o := 1) (v := .int .i64 (wrap64 (se + x.e))) (by omega))
        have HB3 := Lib.hid (HB2.out.setCell (p := ⟨R + 1, 1, none⟩) (Nat.le_succ R) (.int .i64 (wrap64 (se + x.e))))
        rw [hw3] at HS3 HX3 HZ3 HB3
        simp only at HS3
        rw [hw3]
        clear hw3 x0 x1 x2 x3 s0 s1 s2 s3 f0 f1 f2 f3
        obtain ⟨x0, x1, x2, x3, -, -, -, -⟩ := HX3.out.cells
        obtain ⟨s0, s1, s2, s3, f0, f1, f2, f3⟩ := HS3.out.cells
        simp only at s0 s1 s2 s3
        go_upto_region 9 with (first | refine wpl_newl rfl _ _ rfl rfl rfl ST.out ?_ | refine wpl_eq4 rfl _ _ _ rfl rfl rfl ?_)
        obtain ⟨w4, hw4⟩ : ∃ w, w3.setCell ⟨R + 1, 2, none⟩ (.int .i64 (wrap64 (sd + x.d))) = w := ⟨_, rfl⟩
        have HS4 := Lib.hid (HS3.out.set2 (wrap64 (sd + x.d)))
        have HX4 := Lib.hid (HX3.out.other (o := 2) (v := .int .i64 (wrap64 (sd + x.d))) hne)
        have HZ4 := Lib.hid (HZ3.out.other (g := R + 1) (o := 2) (v := .int .i64 (wrap64 (sd + x.d))) (by omega))
        have HB4 := Lib.hid (HB3.out.setCell (p := ⟨R + 1, 2, none⟩) (Nat.le_succ R) (.int .i64 (wrap64 (sd + x.d))))
        rw [hw4] at HS4 HX4 HZ4 HB4
        simp only at HS4
        rw [hw4]
        clear hw4 x0 x1 x2 x3 s0 s1 s2 s3 f0 f1 f2 f3
        obtain ⟨x0, x1, x2, x3, -, -, -, -⟩ := HX4.out.cells
        obtain ⟨s0, s1, s2, s3, f0, f1, f2, f3⟩ := HS4.out.cells
        simp only at s0 s1 s2 s3
        go_wp2_with fail
        obtain ⟨w5, hw5⟩ : ∃ w, w4.setCell ⟨R + 1, 3, none⟩ (.int .i64 (max sg x.g)) = w := ⟨_, rfl⟩
        have HS5 := Lib.hid (HS4.out.set3 (max sg x.g))
        have HX5 := Lib.hid (HX4.out.other (o := 3) (v := .int .i64 (max sg x.g)) hne)
        have HZ5 := Lib.hid (HZ4.out.other (g := R + 1) (o := 3) (v := .int .i64 (max sg x.g)) (by omega))
        have HB5 := Lib.hid (HB4.out.setCell (p := ⟨R + 1, 3, none⟩) (Nat.le_succ R) (.int .i64 (max sg x.g)))
        rw [hw5] at HS5 HX5 HZ5 HB5
        simp only at HS5
        rw [hw5]
        clear hw5 x0 x1 x2 x3 s0 s1 s2 s3 f0 f1 f2 f3
        go_roundw
        case rel =>
          refine ⟨i + 1, by rw [WR.out], Lib.hid hi, Lib.hid ?_, HZ5, HB5⟩
          rw [SP.out, HSS.out]
          exact HS5.out
        case measure => simp [WR.out]; omega
    · have e := (show i = l.length by have := HI.out; omega)
      subst e
      have hi : ¬ l.length < l.length := by omega
      obtain ⟨s0, s1, s2, s3, -, -, -, -⟩ := HS.out.cells
      obtain ⟨r0, r1, r2, r3, f0, f1, f2, f3⟩ := HZ.out.cells
      have HR2 := Lib.hid (u4_at (x := lsum (l.take l.length)) HZ.out)
      have HB2 := Lib.hid (HB.out.trans (u4_below (w := wr) (b := R) (lsum (l.take l.length)) (Nat.le_refl _)))
      obtain ⟨w2, hw2⟩ : ∃ w2, u4 wr R (lsum (l.take l.length)) = w2 := ⟨_, rfl⟩
      rw [hw2] at HR2 HB2
      unfold u4 at hw2
      have HW2 := Lib.hid hw2
      clear hw2
      rw [List.take_length] at *
      go_wp2_with fail
      rw [HW2.out]
      refine bodyPost_ret (res_c1 (p := 2) (ty := 25) rfl _ _ R 25 #[.int .i64 (lsum l).c, .int .i64 (lsum l).e, .int .i64 (lsum l).d, .int .i64 (lsum l).g] (0, 0) _ rfl HR2.out Try.underlying25 rfl ld_size) rfl ?_
      exact ⟨rfl, HB2.out⟩
end Go.Proofs.Ytfilbdmenlhoiaa
