/- Put together by program (merge2.py): Stk Rowsg Nodesg Atg Cmpt Cmpd Cmpr. -/
import Derived.Test.YtmbcfijhlpeddaaP1
import Derived.Test.YtmbcfijhlpeddaaP5
/- A stack of rows of nodes: a row of slices of the call's own that grows and is cut. -/
namespace Go.Proofs.Ytmbcfijhlpeddaa
open Go.ChangeShapes Go.WideShapes Go.ChangeAt Go.RowKit
set_option linter.unusedVariables false
set_option linter.unusedSimpArgs false
theorem info_rows : (Try.prog.info? 32).map (fun i => (i.zero, i.size, i.bytes)) = some (some (.slice none 0 0), 1, 24) := by kernel_rfl
/-- The number of all nodes of some rows. -/
def cntL : List Fo → Nat
  | [] => 0
  | f :: l => f.cnt + cntL l
theorem cntL_app : ∀ l m : List Fo, cntL (l ++ m) = cntL l + cntL m
  | [], m => by simp [cntL]
  | f :: l, m => by simp only [List.cons_append, cntL, cntL_app l m]; omega
theorem cntL_at : ∀ (l : List Fo) (f : Fo), f ∈ l → f.cnt ≤ cntL l
  | [], f, h => by cases h
  | g :: l, f, h => by
    simp only [cntL]
    rcases List.mem_cons.1 h with rfl | h
    · omega
    · have := cntL_at l f h; omega
/-- The rows of the kids of the first i of a row's nodes, but for the empty ones. -/
def kidsTo (f : Fo) : Nat → List Fo
  | 0 => []
  | i + 1 => kidsTo f i ++ (if 0 < (f.kids i).len then [f.kids i] else [])
theorem kidsTo_len (f : Fo) : ∀ i, (kidsTo f i).length ≤ i
  | 0 => Nat.le_refl _
  | i + 1 => by have := kidsTo_len f i; rw [kidsTo, List.length_append]; split <;> simp <;> omega
theorem cnt_none {f : Fo} (h : f.len = 0) : f.cnt = 0 := by cases f with
  | nil => rfl
  | cons k n ks r => simp [Fo.len] at h
def kcnt (f : Fo) : Nat → Nat
  | 0 => 0
  | i + 1 => kcnt f i + (f.kids i).cnt
theorem kidsTo_cnt (f : Fo) : ∀ i, cntL (kidsTo f i) = kcnt f i
  | 0 => rfl
  | i + 1 => by
    rw [kidsTo, cntL_app, kidsTo_cnt f i, kcnt]
    split
    · simp [cntL]
    · rename_i h
      rw [cnt_none (f := f.kids i) (by omega)]; simp [cntL]
theorem kcnt_cons (k n : Int) (ks r : Fo) : ∀ i, kcnt (.cons k n ks r) (i + 1) = ks.cnt + kcnt r i
  | 0 => by simp [kcnt, Fo.kids]
  | i + 1 => by
    rw [kcnt, kcnt_cons k n ks r i, kcnt]
    simp only [Fo.kids]; omega
theorem kcnt_all : ∀ f : Fo, f.cnt = f.len + kcnt f f.len
  | .nil => rfl
  | .cons k n ks r => by
    have := kcnt_all r
    rw [Fo.len, kcnt_cons, Fo.cnt]; omega
/-- The stack v holds the rows l, of trees before lim. -/
def Stk (w : World) (lim B : Nat) (v : Value) (l : List Fo) : Prop := ∃ xs : List Value, w.ownsRow B 32 1 v l.length xs ∧ ∀ (i : Nat) (f : Fo), l[i]? = some f → ∃ a n c, xs[i]? = some (.slice a n c) ∧ Kids w lim (.slice a n c) f
theorem Stk.one {W : World} {lim B m c : Nat} {p : Option Addr} {f : Fo} (hK : Kids W lim (.slice p m c) f) (hl : lim ≤ W.heap.size) (hB : B ≤ W.heap.size) : Stk (W.alloc (.cells #[.slice p m c] 32)) lim B (.slice (some ⟨W.heap.size, 0, none⟩) 1 1) [f] := by
  refine ⟨[.slice p m c], ⟨rfl, .inr ⟨W.heap.size, 1, _, rfl, hB, heap_alloc_new W _, Nat.le_refl _, by unfold maxLen; omega, rfl, rfl⟩⟩, fun i g h => ?_⟩
  cases i with
  | zero =>
    cases h
    exact ⟨p, m, c, rfl, hK.below hl ((Below.refl _ _).alloc (Nat.le_refl _) _)⟩
  | succ i => cases h
/-- What leaves the trees and the stack's block as they are. -/
theorem Stk.kept {w w' : World} {lim B : Nat} {v : Value} {l : List Fo} (h : Stk w lim B v l) (hb : Below lim w w') (hk : ∀ k o, B ≤ k → w.heap[k]? = some o → o.isCells = true → w'.heap[k]? = some o) : Stk w' lim B v l := by
  obtain ⟨xs, ⟨h0, h1⟩, h2⟩ := h
  refine ⟨xs, ⟨h0, h1.imp id (fun ⟨g, cap, cur, e, hB, hg, h3⟩ => ⟨g, cap, cur, e, hB, hk g _ hB hg rfl, h3⟩)⟩, fun i f hi => ?_⟩
  obtain ⟨a, n, c, e, hK⟩ := h2 i f hi
  exact ⟨a, n, c, e, hK.carry hb⟩
/-- The last is taken away. -/
theorem Stk.pop {w : World} {lim B : Nat} {v : Value} {l : List Fo} {f : Fo} (h : Stk w lim B v (l ++ [f])) : ∃ g cap a n c, v = .slice (some ⟨g, 0, none⟩) (l.length + 1) cap ∧ l.length + 1 ≤ cap ∧ cap ≤ 9223372036854775807 ∧
    w.cell? ⟨g, l.length, none⟩ = some (.slice a n c) ∧ Kids w lim (.slice a n c) f ∧ Stk w lim B (.slice (some ⟨g, 0, none⟩) l.length cap) l := by
  obtain ⟨xs, ⟨h0, h1⟩, h2⟩ := h
  have hL : (l ++ [f]).length = l.length + 1 := by simp
  rw [hL] at h0 h1
  rcases h1 with ⟨-, hn⟩ | ⟨g, cap, cur, rfl, hB, hg, h3, h4, h5, h6⟩
  · omega
  · obtain ⟨a, n, c, e, hK⟩ := h2 l.length f (by simp)
    have hcur : ∀ j, j < l.length + 1 → cur[j]? = xs[j]? := fun j hj => by
      rw [← h6, List.getElem?_take, if_pos (by omega)]; simp
    refine ⟨g, cap, a, n, c, rfl, h3, by unfold maxLen at h4; omega, ?_, hK, xs.take l.length, ⟨by simp; omega, .inr ⟨g, cap, cur, rfl, hB, hg, by omega, h4, h5, ?_⟩⟩, fun i f' hi => ?_⟩
    · rw [cell_of_row w g l.length _ _ _ hg, hcur _ (by omega)]; exact e
    · rw [← h6, List.take_take]; congr 1; omega
    · have hlt : i < l.length := by
        rcases Nat.lt_or_ge i l.length with h | h
        · exact h
        · rw [List.getElem?_eq_none h] at hi; cases hi
      obtain ⟨a', n', c', e', hK'⟩ := h2 i f' (by rw [List.getElem?_append_left hlt]; exact hi)
      exact ⟨a', n', c', by rw [List.getElem?_take, if_pos hlt]; exact e', hK'⟩
/-- One row more. -/
theorem stk_push {F : Fence} {n : Nat} {ops : Array Oper} {rest : List Oper} {o : Oper} {a : Act} {Q : Exit → Act → World → Prop} {W : World} {lim B : Nat} {v : Value} {l : List Fo} {f : Fo} {p : Option Addr} {m c : Nat} (hgd : o.guard = none) (s x : Operand)
    (ho : o.op = .call { callee := .builtin .append, args := #[s, x], argTypes := #[85, 85] }) (hs : a.eval s = v) (hS : Stk W lim B v l) (hx : a.eval x = .slice (some ⟨W.heap.size, 0, none⟩) 1 1) (hK : Kids W lim (.slice p m c) f)
    (hl : lim ≤ B) (hB : B ≤ W.heap.size) (hlen : l.length < 1099511627776)
    (h : ∀ v' w', Stk w' lim B v' (l ++ [f]) → Below B W w' → (∃ g n c, v' = .slice (some g) n c) → wpListIn F n Try.prog ops Q rest (a.put o.dst v') w') : wpListIn F n Try.prog ops Q (o :: rest) a (W.alloc (.cells #[.slice p m c] 32)) := by
  have hn := heap_alloc_new W (.cells #[.slice p m c] 32)
  have bb := (Below.refl W.heap.size W).alloc (Nat.le_refl _) (.cells #[.slice p m c] 32)
  have hsz := World.size_alloc W (.cells #[.slice p m c] 32)
  obtain ⟨xs, hown, h2⟩ := hS
  have hown2 := hown.alloc (.cells #[.slice p m c] 32)
  generalize W.alloc (.cells #[.slice p m c] 32) = u at *
  obtain ⟨i0, hi⟩ : ∃ i, Try.prog.info? 32 = some i := by
    cases h0 : Try.prog.info? 32 with
    | none => have := info_rows; rw [h0] at this; cases this
    | some i => exact ⟨i, rfl⟩
  have h1 := info_rows
  rw [hi] at h1
  simp only [Option.map_some, Option.some.injEq, Prod.mk.injEq] at h1
  obtain ⟨hz, hsz1, hby⟩ := h1
  refine wpListIn_append_own u hgd s x 85 ho B 32 i0 (.slice none 0 0) 1 24 Try.underlying85 hi hz hsz1 hby rfl (by decide) v l.length xs hs hown2 ⟨W.heap.size, 0, none⟩ 1 1 [.slice p m c] hx rfl ?_ ?_ (by unfold maxLen; omega) (by omega) (by omega) ?_
  · intro j y hj
    cases j with
    | zero =>
      cases hj
      rw [show (⟨W.heap.size, 0, none⟩ : Addr).add 0 = ⟨W.heap.size, 0, none⟩ from rfl, cell_of_row _ _ _ _ _ _ hn]; rfl
    | succ j => cases hj
  · intro y hy
    simp only [List.mem_singleton] at hy
    subst hy; rfl
  · intro v' w' g1 g2 g3
    have hb2 : Below B u w' := ⟨g2.os, g2.tape, g2.output, g2.size, fun k hk => g2.block k (by omega) (fun e => by have := (World.ownsRow.lt hown2 k e.symm).1; omega)⟩
    have hb3 : Below B W w' := (bb.mono hB).trans hb2
    refine h v' w' ⟨xs ++ [.slice p m c], by rw [List.length_append]; exact g1, fun i f' hi' => ?_⟩ hb3 ?_
    · rcases Nat.lt_trichotomy i l.length with hlt | rfl | hgt
      · rw [List.getElem?_append_left hlt] at hi'
        obtain ⟨a', n', c', e', hK'⟩ := h2 i f' hi'
        exact ⟨a', n', c', by rw [List.getElem?_append_left (by have := hown.1; omega)]; exact e', hK'.carry (hb3.mono hl)⟩
      · rw [List.getElem?_append_right (Nat.le_refl _), Nat.sub_self] at hi'
        cases hi'
        exact ⟨p, m, c, by rw [List.getElem?_append_right (by have := hown.1; omega), show l.length - xs.length = 0 by have := hown.1; omega]; rfl, hK.carry (hb3.mono hl)⟩
      · rw [List.getElem?_eq_none (by simp; omega)] at hi'; cases hi'
    · rcases g1.2 with ⟨_, hn0⟩ | ⟨g, cap, cur, e, _⟩
      · omega
      · exact ⟨_, _, _, e⟩
/-- The least of some numbers. -/
theorem least_ex (p : Nat → Prop) (h : ∃ k, p k) : ∃ k, p k ∧ ∀ j, p j → k ≤ j := by
  obtain ⟨k, hk⟩ := h
  induction k using Nat.strongRecOn with
  | _ k ih =>
    by_cases hj : ∃ j, j < k ∧ p j
    · obtain ⟨j, h1, h2⟩ := hj
      exact ih j h1 h2
    · exact ⟨k, hk, fun j hpj => Nat.le_of_not_lt fun hlt => hj ⟨j, hlt, hpj⟩⟩
noncomputable def leastN (p : Nat → Prop) : Nat := Classical.epsilon fun k => p k ∧ ∀ j, p j → k ≤ j
theorem leastN_is {p : Nat → Prop} (h : ∃ k, p k) : p (leastN p) ∧ ∀ j, p j → leastN p ≤ j := Classical.epsilon_spec (least_ex p h)
end Go.Proofs.Ytmbcfijhlpeddaa
/- package desc's rows, for every tree: a range over a function whose iterator keeps a stack of its own. -/
namespace Go.Proofs.Ytmbcfijhlpeddaa
open Go.ChangeShapes Go.WideShapes Go.ChangeAt Go.RowKit
set_option linter.unusedVariables false
open Go.Shelf
set_option linter.unusedSimpArgs false
attribute [local go_sem] Oper.semAt_some
/-- A row, as it is told: a slice. -/
abbrev RowV := { t : Option Addr × Nat × Nat // t.2.1 ≤ 1048576 }
def encR (x : RowV) : Array Value := #[.slice x.1.1 x.1.2.1 x.1.2.2]
def zsum : List RowV → Nat
  | [] => 0
  | x :: l => x.1.2.1 + zsum l
theorem zsum_app : ∀ l m : List RowV, zsum (l ++ m) = zsum l + zsum m
  | [], m => by simp [zsum]
  | x :: l, m => by simp only [List.cons_append, zsum, zsum_app l m]; omega
theorem zsum_le : ∀ l : List RowV, zsum l ≤ l.length * 1048576
  | [] => by simp [zsum]
  | x :: l => by have := zsum_le l; have := x.2; simp only [zsum, List.length_cons]; omega
/-- What one who ranges over rows leaves as it is. -/
def Kpr (n₀ n₁ : Nat) (A C : World) : Prop := Below n₀ A C ∧ ∀ (k : Nat) (o : Obj), n₁ ≤ k → A.heap[k]? = some o → o.isCells = true → C.heap[k]? = some o
theorem Kpr.trans {n₀ n₁ : Nat} (A B C : World) (h : Kpr n₀ n₁ A B) (g : Kpr n₀ n₁ B C) : Kpr n₀ n₁ A C := ⟨h.1.trans g.1, fun k o hk ho hc => g.2 k o hk (h.2 k o hk ho hc) hc⟩
theorem kpr_put {n₀ n₁ : Nat} {w : World} (hn : n₀ ≤ n₁) (W : World) (l : Nat) (o o' : Obj) (hl : n₁ ≤ l) (h : W.heap[l]? = some o) (h1 : o.isCells = false) : Kpr n₀ n₁ W (W.putObj l o') := by
  have hlt : l < W.heap.size := (Array.getElem?_eq_some_iff.1 h).1
  refine ⟨(Below.refl _ W).grown (grownBy_putObj' W l o') (by omega) (fun k e => by cases e; omega), fun k x hk hx hc => ?_⟩
  by_cases e : l = k
  · subst e
    rw [h] at hx; cases hx; rw [h1] at hc; cases hc
  · rw [World.putObj_heap_other (fun h => e h.symm)]; exact hx
/-- The state of the walk: what was told, and what is to do. -/
structure RowsRel (J : List RowV → World → Prop) (n₀ B C : Nat) (W2 : World) (pre : List RowV) (st : List Fo) (s : Value) (wr : World) : Prop where
  b : Below n₀ W2 wr
  k : Stk wr n₀ B s st
  j : J pre wr
  z : zsum pre + cntL st = C
  l : pre.length ≤ zsum pre + 1
  e : (pre.length = 0 ∧ st.length = 1) ∨ ∀ f ∈ st, 0 < f.len
theorem len_cntL : ∀ l : List Fo, (∀ f ∈ l, 0 < f.len) → l.length ≤ cntL l
  | [], _ => Nat.le_refl _
  | f :: l, h => by
    have h1 := len_cntL l (fun g hg => h g (List.mem_cons_of_mem _ hg))
    have h2 := h f (List.mem_cons_self ..)
    have h3 := kcnt_all f
    simp only [List.length_cons, cntL]; omega
theorem kidsTo_pos (f : Fo) : ∀ (i : Nat) (x : Fo), x ∈ kidsTo f i → 0 < x.len
  | 0, x, h => by cases h
  | i + 1, x, h => by
    rw [kidsTo] at h
    rcases List.mem_append.1 h with h | h
    · exact kidsTo_pos f i x h
    · split at h
      · rename_i h1
        rw [List.mem_singleton.1 h]; exact h1
      · cases h
set_option maxRecDepth 100000 in
set_option maxHeartbeats 4000000 in
theorem rows_g (g : Nat) (hg : 1 ≤ g) (B1 n₀ n₁ l m c : Nat) (p : Option Addr) (f : Fo) (W : World) (hB1 : W.cell? ⟨B1, 2, none⟩ = some (.slice p m c)) (hK : Kids W n₀ (.slice p m c) f) (hn0 : n₀ ≤ n₁) (hn1 : n₁ ≤ W.heap.size) (hC : f.cnt ≤ 1048576)
    (J Jx : List RowV → World → Prop) (hJ : Low W.heap.size J)
    (hY : ∀ pre x V, J pre V → pre.length < f.cnt + 2 → YieldAt Fence.wide (g - 1) Try.prog l (encR x) V fun e V' => (e = .returned (.bool true) ∧ J (pre ++ [x]) V' ∧ Kpr n₀ n₁ V V') ∨ (e = .returned (.bool false) ∧ Jx (pre ++ [x]) V'))
    (h0 : J [] W) : CallsIn Fence.wide g Try.prog 53 #[.func (.yield l) #[] #[], .pointer (some ⟨B1, 0, none⟩)] W fun e W' => (∃ v, e = .returned v) ∧
      ((∃ xs, zsum xs = f.cnt ∧ J xs W') ∨ ∃ pre, True ∧ Jx pre W') := by
  have lB := block_lt_of_cell hB1
  obtain ⟨W2, hW2⟩ : ∃ W2, W.alloc (.cells #[.slice p m c] 32) = W2 := ⟨_, rfl⟩
  have HS : RowsRel J n₀ W.heap.size f.cnt W2 [] [f] (.slice (some ⟨W.heap.size, 0, none⟩) 1 1) W2 := by
    refine ⟨Below.refl _ _, ?_, hJ [] W W2 h0 ?_, by simp [zsum, cntL], by simp, .inl ⟨rfl, rfl⟩⟩
    · rw [← hW2]; exact Stk.one hK (by omega) (Nat.le_refl _)
    · rw [← hW2]; exact (Below.refl _ _).alloc (Nat.le_refl _) _
  have hs2 : W2.heap.size = W.heap.size + 1 := by rw [← hW2]; simp
  generalize hC2 : f.cnt = C at *
  generalize hBB : W.heap.size = B at *
  refine callsIn_of_wp Try.func53 rfl trivial ?_ rfl
  simp only [Try.ntmps53, List.size_toArray, List.length_cons, List.length_nil, Nat.reduceAdd, Nat.reduceSub, Array.replicate_succ, Array.replicate_zero, List.push_toArray, List.append_toArray, List.nil_append, List.cons_append]
  gi_wp2

  clear hW2 hK hB1 h0
  gi_loopw [3] (fun s wr => ∃ pre st, RowsRel J n₀ B C W2 pre st s wr) (fun s wr => leastN (fun k => ∃ pre st, RowsRel J n₀ B C W2 pre st s wr ∧ k = 2 * cntL st + st.length))
  case atStart => exact ⟨_, _, HS⟩
  case round =>
    clear HS
    obtain ⟨pre0, st0, hr0⟩ := hrel
    obtain ⟨⟨pre, st, hr, hmin⟩, -⟩ := leastN_is (p := fun k => ∃ pre st, RowsRel J n₀ B C W2 pre st u3 wr ∧ k = 2 * cntL st + st.length) ⟨_, pre0, st0, hr0, rfl⟩
    clear hr0 pre0 st0
    have HY := Lib.hid hY
    clear hY
    rcases List.eq_nil_or_concat st with rfl | ⟨st', f', rfl⟩
    · obtain ⟨a, c, rfl⟩ : ∃ a c, u3 = .slice a 0 c := by
        obtain ⟨xs, ⟨-, h1⟩, -⟩ := hr.k
        rcases h1 with ⟨rfl, -⟩ | ⟨g, cap, cur, rfl, -⟩
        · exact ⟨_, _, rfl⟩
        · exact ⟨_, _, rfl⟩
      have HR := Lib.hid hr
      clear hr hmin
      gi_wp2
      go_end0
      exact ⟨⟨_, rfl⟩, .inl ⟨pre, by have := HR.out.z; simpa [cntL] using this, HR.out.j⟩⟩
    · rw [List.concat_eq_append] at hr hmin
      obtain ⟨q, cap, a, n, c', rfl, hcap, hcap2, hcell, hKf, hS⟩ := hr.k.pop
      have hn : n = f'.len := by obtain ⟨_, _, e, _⟩ := hKf; cases e; rfl
      have hz := hr.z
      rw [cntL_app] at hz
      simp only [cntL, Nat.add_zero] at hz
      have hfc := kcnt_all f'
      have hbn : n ≤ 1048576 := by omega
      have hYx := HY.out pre ⟨(a, n, c'), hbn⟩ wr hr.j (by have := hr.l; omega)
      obtain ⟨L, hL⟩ : ∃ L, st'.length = L := ⟨_, rfl⟩
      rw [hL] at hcap hcell hS hmin ⊢
      have HR := Lib.hid hr
      have HM := Lib.hid hmin
      have HS := Lib.hid hS
      have HK := Lib.hid hKf
      have hLb : L ≤ C ∧ ((pre.length = 0 ∧ L = 0) ∨ ∀ g ∈ st', 0 < g.len) ∧ ((pre.length = 0 ∧ L = 0) ∨ 0 < f'.len) := by
        rcases hr.e with ⟨e1, e2⟩ | e1
        · have : L = 0 := by rw [List.length_append, List.length_singleton] at e2; omega
          exact ⟨by omega, .inl ⟨e1, this⟩, .inl ⟨e1, this⟩⟩
        · have := len_cntL st' (fun g hg => e1 g (List.mem_append_left _ hg))
          exact ⟨by omega, .inr (fun g hg => e1 g (List.mem_append_left _ hg)), .inr (e1 f' (by simp))⟩
      have hlp := hr.l
      have a1 : n₀ ≤ B := by omega
      obtain ⟨hLb, hLe, hLf⟩ := hLb
      have HLE := Lib.hid hLe
      have HLF := Lib.hid hLf
      have HN := Lib.hid hn
      have HZ := Lib.hid hz
      have HF := Lib.hid hfc
      clear hr hmin hS hKf hz hn hfc hLe hLf
      have d1 : decide ((0 : Int) < (L : Int) + 1) = true := decide_eq_true (by omega)
      have w1 : IntKind.i64.wrap ((L : Int) + 1 - 1) = (L : Int) := by rw [show (L : Int) + 1 - 1 = (L : Int) by omega]; exact IntWalk.i64_in _ (by omega)
      obtain ⟨fn, tmps, assign, body, hy1, hR⟩ := hYx
      dsimp only [encR] at hy1 hR
      gi_wp2
      refine hR.mono ?_
      rintro e W3 (⟨rfl, hJ3, hk3⟩ | ⟨rfl, hJx3⟩)
      · have hS3 := HS.out.kept hk3.1 (fun k o hk => hk3.2 k o (by omega))
        have HK3 := Lib.hid (HK.out.carry hk3.1)
        have HB3 := Lib.hid (HR.out.b.trans hk3.1)
        have HJ3 := Lib.hid hJ3
        have hB3 : B ≤ W3.heap.size := by have := HR.out.b.size; have := hk3.1.size; omega
        clear hJ3 hk3 hR HS HK hcell hy1
        gi_wp2
        gi_loopw [3, 29] (fun t j wr3 => ∃ i : Nat, i ≤ n ∧ j = .int .i64 i ∧ Hid (Below B W3 wr3) ∧ Hid (Stk wr3 n₀ B t (st' ++ kidsTo f' i))) (fun _ j _ => n - (intOf j).toNat)
        case atStart => exact ⟨0, Nat.zero_le _, rfl, Lib.hid (Below.refl _ _), Lib.hid (by rw [kidsTo, List.append_nil]; exact hS3)⟩
        case round =>
          clear hS3
          obtain ⟨i, hi, rfl, HB4, HS4⟩ := hrel
          by_cases hlt : i < n
          · obtain ⟨b, o, v, rfl, hb, g0, g1, g2, hKi⟩ := (HK3.out.carry (HB4.out.mono (by omega))).get hlt
            obtain ⟨a', c'', rfl, hc1, hc2⟩ := hKi.form
            have HKi := Lib.hid hKi
            have dd : decide ((i : Int) < (n : Int)) = true := decide_eq_true (by omega)
            clear hKi g0 g1
            by_cases hp : 0 < (f'.kids i).len
            · have dp : decide ((0 : Int) < ((f'.kids i).len : Int)) = true := decide_eq_true (by omega)
              have a2 : B ≤ wr.heap.size := by have := HB4.out.size; omega
              have a3 : (st' ++ kidsTo f' i).length < 1099511627776 := by have := kidsTo_len f' i; rw [List.length_append]; omega
              gi_wp2_with (gi_at_builtin; refine stk_push rfl _ _ rfl rfl HS4.out rfl HKi.out a1 a2 a3 ?_; rintro v5 w5 hS5 hB5 ⟨vg, vn, vc, rfl⟩; have HS5 := Lib.hid hS5; have HB5 := Lib.hid hB5; clear hS5 hB5)
              go_roundw
              case rel => exact ⟨i + 1, by omega, by go_num, Lib.hid (HB4.out.trans HB5.out), by rw [kidsTo, if_pos hp, ← List.append_assoc]; exact HS5⟩
              case measure => (first | (simp [intOf]; done) | (simp [intOf]; omega) | (simp only [intOf]; omega))
            · have dp : decide ((0 : Int) < ((f'.kids i).len : Int)) = false := decide_eq_false (by omega)
              gi_wp2
              go_roundw
              case rel => exact ⟨i + 1, by omega, by go_num, HB4, by rw [kidsTo, if_neg hp, List.append_nil]; exact HS4⟩
              case measure => (first | (simp [intOf]; done) | (simp [intOf]; omega) | (simp only [intOf]; omega))
          · obtain rfl : i = n := by omega
            have dd : decide ((i : Int) < (i : Int)) = false := decide_eq_false (by omega)
            have hkl := kidsTo_len f' i
            have hz2 : zsum (pre ++ [⟨(a, i, c'), hbn⟩]) = zsum pre + i := by rw [zsum_app]; rfl
            have hc2 : cntL (st' ++ kidsTo f' i) + i = cntL st' + f'.cnt := by
              have := HF.out
              rw [cntL_app, kidsTo_cnt, HN.out]; omega
            have hnew := fun (sv : Value) (hsv : Stk wr n₀ B sv (st' ++ kidsTo f' i)) => show RowsRel J n₀ B C W2 (pre ++ [⟨(a, i, c'), hbn⟩]) (st' ++ kidsTo f' i) sv wr by
              refine ⟨HB3.out.trans (HB4.out.mono a1), hsv, hJ _ _ _ HJ3.out HB4.out, ?_, ?_, .inr ?_⟩
              · have := HZ.out; omega
              · rw [hz2, List.length_append, List.length_singleton]
                have := HN.out
                rcases HLF.out with h | h <;> omega
              · intro x hx
                rcases List.mem_append.1 hx with hx | hx
                · rcases HLE.out with h | h
                  · rw [List.length_eq_zero_iff.1 (hL.trans h.2)] at hx; cases hx
                  · exact h x hx
                · exact kidsTo_pos f' i x hx
            have HNew := Lib.hid (hnew _ HS4.out)
            have hlt2 : 2 * cntL (st' ++ kidsTo f' i) + (st' ++ kidsTo f' i).length < 2 * cntL (st' ++ [f']) + (st' ++ [f']).length := by
              rw [cntL_app st' [f'], List.length_append, List.length_append]
              simp only [cntL, List.length_singleton, Nat.add_zero]
              omega
            have HLt := Lib.hid hlt2
            clear hnew hlt2 hc2 hz2 hkl
            gi_wp2
            go_roundw
            case rel => exact ⟨_, _, HNew.out⟩
            case measure =>
              rw [HM.out]
              exact Nat.lt_of_le_of_lt ((leastN_is ⟨_, _, _, HNew.out, rfl⟩).2 _ ⟨_, _, HNew.out, rfl⟩) HLt.out
      · gi_wp2
        refine bodyPost_ret (results_none rfl _ _ _) rfl ?_
        exact ⟨⟨_, rfl⟩, .inr ⟨_, trivial, hJx3⟩⟩
end Go.Proofs.Ytmbcfijhlpeddaa
/- package desc's Nodes, for every tree. -/
namespace Go.Proofs.Ytmbcfijhlpeddaa
open Go.ChangeShapes Go.WideShapes Go.ChangeAt Go.RowKit
set_option linter.unusedVariables false
open Go.Shelf
set_option linter.unusedSimpArgs false
attribute [local go_sem] Oper.semAt_some
theorem rows_low (g : Nat) (hg : 1 ≤ g) (B1 n₀ m c : Nat) (p : Option Addr) (f : Fo) (w : World) (hB1 : w.cell? ⟨B1, 2, none⟩ = some (.slice p m c)) (hK : Kids w n₀ (.slice p m c) f) (hn0 : n₀ ≤ w.heap.size) (hC : f.cnt ≤ 1048576) :
    SeqLow Fence.wide g Try.prog 53 #[.pointer (some ⟨B1, 0, none⟩)] encR (Kpr n₀ w.heap.size) (fun xs => zsum xs = f.cnt) (fun _ => True) (f.cnt + 2) w := fun l J Jx W hW hJ _ hY h0 =>
  rows_g g hg B1 n₀ w.heap.size l m c p f W ((hW.cell (p := ⟨B1, 2, none⟩) (block_lt_of_cell hB1)).trans hB1) (hK.carry (hW.mono hn0)) hn0 hW.size hC J Jx hJ hY h0
set_option maxRecDepth 100000 in
set_option maxHeartbeats 2000000 in
theorem desc_nodes (k n : Int) (v : Value) (lim : Nat) (f : Fo) (W : World) (hK : Kids W lim v f) (hl : lim ≤ W.heap.size) (hC : f.cnt ≤ 1048576) :
    Calls Try.prog 35 #[.agg #[.int .i64 k, .int .i64 n, v]] W fun e w' => e = .returned (.int .i64 ((f.cnt : Int) + 1)) ∧ Below W.heap.size W w' := by
  obtain ⟨p, m, c, rfl, hc1, hc2, HM⟩ := hK.shape
  clear HM
  refine (callsIn_wide (n := 6)).1 ?_
  refine callsIn_of_wp_marks Try.func35 rfl trivial ?_ rfl
  simp only [Try.ntmps35, List.size_toArray, List.length_cons, List.length_nil, Nat.reduceAdd, Nat.reduceSub, Array.replicate_succ, Array.replicate_zero, List.push_toArray, List.append_toArray, List.nil_append, List.cons_append]
  gi_wp2
  refine ⟨trivial, (desc_rows _ k n (.slice p m c) _).mono ?_⟩
  rintro e w1 ⟨rfl, rfl⟩
  gi_wp2
  have hB0 : Below W.heap.size W (((W.alloc (.cells #[.int .i64 k, .int .i64 n, .slice p m c] 34)).alloc (.cells #[.int .i64 1] 3)).alloc (.cells #[.int .i64 k, .int .i64 n, .slice p m c] 34)) := (((Below.refl _ W).alloc (Nat.le_refl _) _).alloc (by simp) _).alloc (by simp; omega) _
  have hsz : (((W.alloc (.cells #[.int .i64 k, .int .i64 n, .slice p m c] 34)).alloc (.cells #[.int .i64 1] 3)).alloc (.cells #[.int .i64 k, .int .i64 n, .slice p m c] 34)).heap.size = W.heap.size + 3 := by simp
  have bN := (Bx.new (W.alloc (.cells #[.int .i64 k, .int .i64 n, .slice p m c] 34)) 3 (.int .i64 1) _ rfl).alloc (.cells #[.int .i64 k, .int .i64 n, .slice p m c] 34)
  have c2 : (((W.alloc (.cells #[.int .i64 k, .int .i64 n, .slice p m c] 34)).alloc (.cells #[.int .i64 1] 3)).alloc (.cells #[.int .i64 k, .int .i64 n, .slice p m c] 34)).cell? ⟨W.heap.size + 1 + 1, 2, none⟩ = some (.slice p m c) := by
    have hn := heap_alloc_new ((W.alloc (.cells #[.int .i64 k, .int .i64 n, .slice p m c] 34)).alloc (.cells #[.int .i64 1] 3)) (.cells #[.int .i64 k, .int .i64 n, .slice p m c] 34)
    simp only [World.size_alloc] at hn
    rw [cell_of_row _ _ _ _ _ _ hn]; rfl
  simp only [World.size_alloc] at bN
  obtain ⟨W0, hW0⟩ : ∃ W0, (((W.alloc (.cells #[.int .i64 k, .int .i64 n, .slice p m c] 34)).alloc (.cells #[.int .i64 1] 3)).alloc (.cells #[.int .i64 k, .int .i64 n, .slice p m c] 34)) = W0 := ⟨_, rfl⟩
  rw [hW0] at hB0 hsz bN c2 ⊢
  clear hW0
  refine wp_range_low rfl (by omega) (gf := 53) (lb := #[.pointer (some ⟨W.heap.size + 1 + 1, 0, none⟩)]) rfl trivial (enters_of Try.func53 (by kernel_rfl) rfl)
    (rows_low _ (by omega) (W.heap.size + 1 + 1) W.heap.size m c p f W0 c2 ((hK.mono hl).below (Nat.le_refl _) hB0) (by omega) hC)
    (fun A B C => Kpr.trans A B C) (kpr_put (w := W0) (by omega)) (Below.refl _ _) (fun _ => rfl)
    (fun pre W' => Bx W' (W.heap.size + 1) 3 (.int .i64 ((1 + zsum pre : Nat) : Int)) ∧ Below W.heap.size W W')
    (fun _ _ _ => False)
    (fun pre A C h hb => ⟨(hb.block (W.heap.size + 1) (by omega)).trans h.1, h.2.trans (hb.mono (by omega))⟩)
    (fun _ _ _ _ h _ => h)
    ⟨by simpa [zsum] using bN, hB0⟩
    (fun x => { tmps := #[.agg #[.int .i64 k, .int .i64 n, .slice p m c], .pointer (some ⟨W.heap.size, 0, none⟩), .int .i64 0, .pointer (some ⟨W.heap.size + 1, 0, none⟩), .slice x.1.1 x.1.2.1 x.1.2.2, .agg #[.int .i64 k, .int .i64 n, .slice p m c], .func (.func 53) #[] #[.pointer (some ⟨W.heap.size + 1 + 1, 0, none⟩)], .slice x.1.1 x.1.2.1 x.1.2.2, undef, undef, undef, undef, undef], defers := [] })
    ?assign ?body ?done ?stop
  case assign =>
    rintro l ⟨⟨xa, xm, xc⟩, hx⟩ W' K hK
    dsimp only [encR] at hK ⊢
    gi_wp2
    exact hK
  case body =>
    rintro l pre ⟨⟨xa, xm, xc⟩, hx⟩ W' ⟨hN, hB⟩ hlen
    dsimp only at hx ⊢
    have cN := hN.cell
    have fN : W'.frozen? ⟨W.heap.size + 1, 0, none⟩ = false := frozen_of_row _ _ _ _ _ hN
    have hz := zsum_le pre
    have ez : zsum (pre ++ [⟨(xa, xm, xc), hx⟩]) = zsum pre + xm := by rw [zsum_app]; rfl
    have w1 : IntKind.i64.wrap (((1 + zsum pre : Nat) : Int) + (xm : Int)) = ((1 + zsum (pre ++ [⟨(xa, xm, xc), hx⟩]) : Nat) : Int) := by
      rw [ez, IntWalk.i64_in _ (by omega)]; omega
    have hN2 := hN.set (.int .i64 ((1 + zsum (pre ++ [⟨(xa, xm, xc), hx⟩]) : Nat) : Int))
    obtain ⟨y, hy⟩ : ∃ y : Int, ((1 + zsum pre : Nat) : Int) = y := ⟨_, rfl⟩
    obtain ⟨z, hz⟩ : ∃ z : Int, ((1 + zsum (pre ++ [⟨(xa, xm, xc), hx⟩]) : Nat) : Int) = z := ⟨_, rfl⟩
    rw [hy] at cN w1
    rw [hz] at w1 hN2
    have HN3 := Lib.hid (show Bx (W'.setCell ⟨W.heap.size + 1, 0, none⟩ (.int .i64 z)) (W.heap.size + 1) 3 (.int .i64 ((1 + zsum (pre ++ [⟨(xa, xm, xc), hx⟩]) : Nat) : Int)) by rw [hz]; exact hN2)
    clear hy hz hN hN2 ez
    gi_wp2
    exact ⟨KeepsOthers.setCell _ _ _, ⟨(Below.refl _ _).setCell (by show W.heap.size ≤ W.heap.size + 1; omega) _, fun q o hq ho _ => (heap_setCell_other W' ⟨W.heap.size + 1, 0, none⟩ q _ (by show q ≠ W.heap.size + 1; omega)).trans ho⟩, HN3.out, hB.setCell (by show W.heap.size ≤ W.heap.size + 1; omega) _⟩
  case done =>
    rintro D zs W' hD hzs ⟨hN, hB⟩ hK
    have cN := hN.cell
    rw [hzs] at cN
    gi_wp2
    refine ⟨by simp, .inl ⟨_, _, rfl, run_takeDeferred hK, ?_⟩⟩
    exact ⟨_, results_tmp rfl _ _ _, by show Ending.returned (.int .i64 (1 + (f.cnt : Int))) = _; rw [Int.add_comm], hB.trans (belowK_b (w := W) (Nat.le_refl _) W' D _ _ (by omega) hK rfl rfl)⟩
  case stop =>
    rintro D c pre W' _ _ h _
    exact h.elim
end Go.Proofs.Ytmbcfijhlpeddaa
/- package desc's Clone and At, for every tree and path. -/
namespace Go.Proofs.Ytmbcfijhlpeddaa
open Go.ChangeShapes Go.WideShapes Go.ChangeAt Go.RowKit
set_option linter.unusedVariables false
set_option linter.unusedSimpArgs false
theorem desc_clone (k n : Int) (v : Value) (f : Fo) (lim : Nat) (W : World) (hK : Kids W lim v f) (hl : lim ≤ W.heap.size) (hC : f.cnt ≤ 1048576) :
    Calls Try.prog 26 #[.agg #[.int .i64 k, .int .i64 n, v]] W fun e w' => ∃ F q, e = .returned (.agg #[.int .i64 k, .int .i64 n, kidv F 0 f.len]) ∧ Cloned w' F f q ∧ W.heap.size ≤ F ∧ Below W.heap.size W w' :=
  desc_clone_of k n v f lim W hK hl hC (fun w hb => desc_nodes k n v lim f w (hK.below hl hb) (by have := hb.size; omega) hC)
end Go.Proofs.Ytmbcfijhlpeddaa
/- How two trees stand to each other, in numbers. -/
namespace Go.Proofs.Ytmbcfijhlpeddaa
open Go.ChangeShapes Go.WideShapes Go.ChangeAt Go.RowKit
set_option linter.unusedVariables false
def Fo.cmpF : Fo → Fo → Int
  | .cons k n ks r, .cons k' n' ks' r' => fz [cmp3 k k', cmp3 n n', cmp3 (ks.len : Int) (ks'.len : Int), ks.cmpF ks', r.cmpF r']
  | .nil, .nil => 0
  | .nil, .cons .. => -1
  | .cons .., .nil => 1
/-- How two nodes stand. -/
def cmpN (k n : Int) (ks : Fo) (k' n' : Int) (ks' : Fo) : Int := fz [cmp3 k k', cmp3 n n', cmp3 (ks.len : Int) (ks'.len : Int), ks.cmpF ks']
/-- Three answers go together. -/
def Goes (x y z : Int) : Prop := (x ≤ 0 → y ≤ 0 → z ≤ 0 ∧ (z = 0 ↔ x = 0 ∧ y = 0))
theorem fz_cons (x : Int) (l : List Int) : fz (x :: l) = if x = 0 then fz l else x := rfl
theorem goes_cons {x y z : Int} {l m t : List Int} (h : Goes x y z) (g : Goes (fz l) (fz m) (fz t)) : Goes (fz (x :: l)) (fz (y :: m)) (fz (z :: t)) := by
  rw [fz_cons, fz_cons, fz_cons]
  intro h1 h2
  by_cases hx : x = 0
  · by_cases hy : y = 0
    · obtain ⟨a1, a2⟩ := h (by omega) (by omega)
      have hz := a2.2 ⟨hx, hy⟩
      rw [if_pos hx] at h1 ⊢
      rw [if_pos hy] at h2 ⊢
      rw [if_pos hz]
      exact g h1 h2
    · rw [if_neg hy] at h2 ⊢
      obtain ⟨a1, a2⟩ := h (by omega) h2
      have hz : z ≠ 0 := fun e => hy (a2.1 e).2
      rw [if_neg hz]
      exact ⟨a1, fun e => absurd e hz, fun e => absurd e.2 hy⟩
  · rw [if_neg hx] at h1 ⊢
    have h3 : y ≤ 0 := by
      by_cases hy : y = 0
      · omega
      · rw [if_neg hy] at h2; exact h2
    obtain ⟨a1, a2⟩ := h h1 h3
    have hz : z ≠ 0 := fun e => hx (a2.1 e).1
    rw [if_neg hz]
    exact ⟨a1, fun e => absurd e hz, fun e => absurd e.1 hx⟩
theorem goes_3 (a b c : Int) : Goes (cmp3 a b) (cmp3 b c) (cmp3 a c) := by
  unfold Goes cmp3
  repeat' split
  all_goals omega
theorem goes_end (x y z : Int) (h : Goes x y z) : Goes (fz [x]) (fz [y]) (fz [z]) := goes_cons h (by unfold Goes fz; omega)
theorem cmpF_goes : ∀ (a b c : Fo), Goes (a.cmpF b) (b.cmpF c) (a.cmpF c)
  | .cons k n ks r, .cons k' n' ks' r', .cons k'' n'' ks'' r'' => by
    rw [Fo.cmpF, Fo.cmpF, Fo.cmpF]
    exact goes_cons (goes_3 _ _ _) (goes_cons (goes_3 _ _ _) (goes_cons (goes_3 _ _ _) (goes_cons (cmpF_goes ks ks' ks'') (goes_end _ _ _ (cmpF_goes r r' r'')))))
  | .nil, .nil, .nil => by unfold Goes Fo.cmpF; omega
  | .nil, .nil, .cons .. => by unfold Goes Fo.cmpF; omega
  | .nil, .cons .., .nil => by unfold Goes Fo.cmpF; omega
  | .nil, .cons .., .cons .. => by
    have : ∀ y, Goes (-1) y (-1) := fun y => by unfold Goes; omega
    exact this _
  | .cons .., .nil, .nil => by unfold Goes; simp only [Fo.cmpF]; omega
  | .cons .., .nil, .cons .. => by unfold Goes; simp only [Fo.cmpF]; omega
  | .cons .., .cons .., .nil => by unfold Goes; simp only [Fo.cmpF]; omega
theorem cmpN_goes (k n : Int) (ks : Fo) (k' n' : Int) (ks' : Fo) (k'' n'' : Int) (ks'' : Fo) : Goes (cmpN k n ks k' n' ks') (cmpN k' n' ks' k'' n'' ks'') (cmpN k n ks k'' n'' ks'') :=
  goes_cons (goes_3 _ _ _) (goes_cons (goes_3 _ _ _) (goes_cons (goes_3 _ _ _) (goes_end _ _ _ (cmpF_goes ks ks' ks''))))
theorem fz_one (x : Int) : fz [x] = x := by rw [fz_cons]; split <;> simp_all [fz]
theorem fz_neg2 (x : Int) (l m : List Int) (h : fz m = - fz l) : fz (-x :: m) = - fz (x :: l) := by
  rw [fz_cons, fz_cons, h]
  by_cases hx : x = 0
  · rw [if_pos hx, if_pos (by omega)]
  · rw [if_neg hx, if_neg (by omega)]
theorem cmpF_neg : ∀ (a b : Fo), b.cmpF a = - a.cmpF b
  | .cons k n ks r, .cons k' n' ks' r' => by
    rw [Fo.cmpF, Fo.cmpF, cmp3_neg k k', cmp3_neg n n', cmp3_neg (ks.len : Int), cmpF_neg ks ks', cmpF_neg r r']
    exact fz_neg2 _ _ _ (fz_neg2 _ _ _ (fz_neg2 _ _ _ (fz_neg2 _ _ _ (fz_neg2 _ [] [] rfl))))
  | .nil, .nil => rfl
  | .nil, .cons .. => rfl
  | .cons .., .nil => rfl
theorem cmpN_neg (k n : Int) (ks : Fo) (k' n' : Int) (ks' : Fo) : cmpN k' n' ks' k n ks = - cmpN k n ks k' n' ks' := by
  unfold cmpN
  rw [cmp3_neg k k', cmp3_neg n n', cmp3_neg (ks.len : Int), cmpF_neg ks ks']
  exact fz_neg2 _ _ _ (fz_neg2 _ _ _ (fz_neg2 _ _ _ (fz_neg2 _ [] [] rfl)))
theorem cmpF_self (a : Fo) : a.cmpF a = 0 := by have := cmpF_neg a a; omega
theorem cmpN_self (k n : Int) (ks : Fo) : cmpN k n ks k n ks = 0 := by have := cmpN_neg k n ks k n ks; omega
theorem fz_bd : ∀ l : List Int, (∀ x ∈ l, -1 ≤ x ∧ x ≤ 1) → -1 ≤ fz l ∧ fz l ≤ 1
  | [], _ => by unfold fz; omega
  | x :: l, h => by
    rw [fz_cons]
    split
    · exact fz_bd l fun y hy => h y (List.mem_cons_of_mem _ hy)
    · exact h x (List.mem_cons_self ..)
theorem cmp3_bd (x y : Int) : -1 ≤ cmp3 x y ∧ cmp3 x y ≤ 1 := by unfold cmp3; split <;> (try split) <;> omega
theorem cmpF_bd : ∀ (a b : Fo), -1 ≤ a.cmpF b ∧ a.cmpF b ≤ 1
  | .cons k n ks r, .cons k' n' ks' r' => by
    rw [Fo.cmpF]
    refine fz_bd _ fun x hx => ?_
    simp only [List.mem_cons, List.not_mem_nil, or_false] at hx
    rcases hx with rfl | rfl | rfl | rfl | rfl
    · exact cmp3_bd _ _
    · exact cmp3_bd _ _
    · exact cmp3_bd _ _
    · exact cmpF_bd ks ks'
    · exact cmpF_bd r r'
  | .nil, .nil => by unfold Fo.cmpF; omega
  | .nil, .cons .. => by unfold Fo.cmpF; omega
  | .cons .., .nil => by unfold Fo.cmpF; omega
theorem cmpN_bd (k n : Int) (ks : Fo) (k' n' : Int) (ks' : Fo) : -1 ≤ cmpN k n ks k' n' ks' ∧ cmpN k n ks k' n' ks' ≤ 1 := by
  refine fz_bd _ fun x hx => ?_
  simp only [List.mem_cons, List.not_mem_nil, or_false] at hx
  rcases hx with rfl | rfl | rfl | rfl
  · exact cmp3_bd _ _
  · exact cmp3_bd _ _
  · exact cmp3_bd _ _
  · exact cmpF_bd ks ks'
/-- The kids from the i-th on, of two rows of one length. -/
theorem cmpF_drop (a b : Fo) (i : Nat) (ha : i < a.len) (hb : i < b.len) : (a.drop i).cmpF (b.drop i) = if cmpN (a.k i) (a.n i) (a.kids i) (b.k i) (b.n i) (b.kids i) = 0 then (a.drop (i + 1)).cmpF (b.drop (i + 1)) else cmpN (a.k i) (a.n i) (a.kids i) (b.k i) (b.n i) (b.kids i) := by
  rw [Fo.drop_at a i ha, Fo.drop_at b i hb, Fo.cmpF]
  unfold cmpN
  simp only [fz_cons]
  generalize cmp3 (a.k i) (b.k i) = x1
  generalize cmp3 (a.n i) (b.n i) = x2
  generalize cmp3 ((a.kids i).len : Int) ((b.kids i).len : Int) = x3
  generalize (a.kids i).cmpF (b.kids i) = x4
  generalize (a.drop (i + 1)).cmpF (b.drop (i + 1)) = x5
  unfold fz
  by_cases h1 : x1 = 0 <;> by_cases h2 : x2 = 0 <;> by_cases h3 : x3 = 0 <;> by_cases h4 : x4 = 0 <;> by_cases h5 : x5 = 0 <;> simp [h1, h2, h3, h4, h5]
theorem cmpF_end (a b : Fo) (m : Nat) (ha : a.len = m) (hb : b.len = m) : (a.drop m).cmpF (b.drop m) = 0 := by
  have h1 : a.drop m = .nil := by rw [← ha]; exact Fo.drop_len a
  have h2 : b.drop m = .nil := by rw [← hb]; exact Fo.drop_len b
  rw [h1, h2]; rfl
end Go.Proofs.Ytmbcfijhlpeddaa
/- How two trees stand: package desc's Cmp and Same. -/
namespace Go.Proofs.Ytmbcfijhlpeddaa
open Go.ChangeShapes Go.WideShapes Go.ChangeAt Go.RowKit
set_option linter.unusedVariables false
theorem row3_lies (w : World) (T : TypeId) (a b c : Int) (ha : (Lit.int .i64 a).wf = true) (hb : (Lit.int .i64 b).wf = true) (hc : (Lit.int .i64 c).wf = true) :
    RowI (w.alloc (.cells #[.int .i64 a, .int .i64 b, .int .i64 c] T)) (some ⟨w.heap.size, 0, none⟩) 3 [a, b, c] := by
  refine ⟨rfl, .inr ⟨w.heap.size, 0, rfl, by simp, fun i hi => ?_⟩, fun z hz => ?_, by omega⟩
  · rw [cell_of_row _ _ _ _ _ _ (heap_alloc_new w _)]
    have : i = 0 ∨ i = 1 ∨ i = 2 := by simp at hi; omega
    rcases this with rfl | rfl | rfl <;> rfl
  · simp only [List.mem_cons, List.not_mem_nil, or_false] at hz
    rcases hz with rfl | rfl | rfl <;> assumption
/-- Two blocks of three cells, one behind the other. -/
theorem two3 (W : World) (k n k' n' : Int) (v v' : Value) (T : TypeId) : ∃ w2 : World, w2 = (W.alloc (.cells #[.int .i64 k, .int .i64 n, v] T)).alloc (.cells #[.int .i64 k', .int .i64 n', v'] T) ∧
    (w2.cell? ⟨W.heap.size, 0, none⟩ = some (.int .i64 k) ∧ w2.cell? ⟨W.heap.size, 1, none⟩ = some (.int .i64 n) ∧ w2.cell? ⟨W.heap.size, 2, none⟩ = some v) ∧
    (w2.cell? ⟨W.heap.size + 1, 0, none⟩ = some (.int .i64 k') ∧ w2.cell? ⟨W.heap.size + 1, 1, none⟩ = some (.int .i64 n') ∧ w2.cell? ⟨W.heap.size + 1, 2, none⟩ = some v') ∧ Below W.heap.size W w2 ∧ w2.heap.size = W.heap.size + 2 := by
  obtain ⟨w1, h1, a0, a1, a2, b1, s1⟩ := box3 W k n v T
  obtain ⟨w2, h2, c0, c1, c2, b2, s2⟩ := box3 w1 k' n' v' T
  have lt : W.heap.size < w1.heap.size := by omega
  rw [s1] at c0 c1 c2
  refine ⟨w2, by rw [h2, h1], ⟨?_, ?_, ?_⟩, ⟨c0, c1, c2⟩, b1.trans (b2.mono b1.size), by omega⟩
  · exact (b2.cell (p := ⟨W.heap.size, 0, none⟩) lt).trans a0
  · exact (b2.cell (p := ⟨W.heap.size, 1, none⟩) lt).trans a1
  · exact (b2.cell (p := ⟨W.heap.size, 2, none⟩) lt).trans a2
theorem cmp3_zero {x y : Int} (h : cmp3 x y = 0) : x = y := by unfold cmp3 at h; split at h; · cases h
                                                               · split at h; · cases h
                                                                 · omega
theorem cmpN_part (k n : Int) (ks : Fo) (k' n' : Int) (ks' : Fo) : cmpN k n ks k' n' ks' = if fz [cmp3 k k', cmp3 n n', cmp3 (ks.len : Int) (ks'.len : Int)] = 0 then ks.cmpF ks' else fz [cmp3 k k', cmp3 n n', cmp3 (ks.len : Int) (ks'.len : Int)] := by
  unfold cmpN
  simp only [fz_cons]
  generalize cmp3 k k' = x1
  generalize cmp3 n n' = x2
  generalize cmp3 (ks.len : Int) (ks'.len : Int) = x3
  generalize ks.cmpF ks' = x4
  unfold fz
  by_cases h1 : x1 = 0 <;> by_cases h2 : x2 = 0 <;> by_cases h3 : x3 = 0 <;> by_cases h4 : x4 = 0 <;> simp [h1, h2, h3, h4]
theorem fz3_zero {k k' n n' m m' : Int} (h : fz [cmp3 k k', cmp3 n n', cmp3 m m'] = 0) : m = m' := by
  simp only [fz_cons] at h
  unfold fz at h
  split at h
  · split at h
    · split at h
      · rename_i h3; exact cmp3_zero h3
      · exact absurd h (by assumption)
    · exact absurd h (by assumption)
  · exact absurd h (by assumption)
end Go.Proofs.Ytmbcfijhlpeddaa
/- Reference 13's Cmp and Same; package desc's Same. -/
namespace Go.Proofs.Ytmbcfijhlpeddaa
open Go.ChangeShapes Go.WideShapes Go.ChangeAt Go.RowKit
set_option linter.unusedVariables false
theorem three_at {t : Nat} (ht : t < 3) : t = 0 ∨ t = 1 ∨ t = 2 := by omega
/-- A block of three numbers. -/
theorem row3 (W : World) (a b c : Int) (T : TypeId) : ∃ w0 : World, w0 = W.alloc (.cells #[.int .i64 a, .int .i64 b, .int .i64 c] T) ∧ (∀ t, t < 3 → w0.cell? ⟨W.heap.size, t, none⟩ = some (.int .i64 ([a, b, c].getD t 0))) ∧ Below W.heap.size W w0 ∧ w0.heap.size = W.heap.size + 1 := by
  obtain ⟨w0, h, a0, a1, a2, b1, s1⟩ := box3 W a b (.int .i64 c) T
  refine ⟨w0, h, fun t ht => ?_, b1, s1⟩
  rcases three_at ht with rfl | rfl | rfl
  · exact a0
  · exact a1
  · exact a2
set_option maxRecDepth 100000 in
set_option maxHeartbeats 8000000 in
theorem r13_cmp (N : Nat) : ∀ (ks ks' : Fo) (v v' : Value) (k n k' n' : Int) (lim : Nat) (W : World), ks.cnt ≤ N → Kids W lim v ks → Kids W lim v' ks' → lim ≤ W.heap.size →
    Calls Try.prog 27 #[.agg #[.int .i64 k, .int .i64 n, v], .agg #[.int .i64 k', .int .i64 n', v']] W fun e w' => e = .returned (.int .i64 (cmpN k n ks k' n' ks')) ∧ Below W.heap.size W w' := by
  induction N using Nat.strongRecOn with
  | _ N ih =>
  intro ks ks' v v' k n k' n' lim W hN hK hK' hl
  obtain ⟨p, m, c, rfl, hc1, hc2, HM⟩ := hK.shape
  obtain ⟨p', m', c', rfl, hc1', hc2', HM'⟩ := hK'.shape
  have CP := Lib.hid (show cmpN k n ks k' n' ks' = if fz [cmp3 k k', cmp3 n n', cmp3 (m : Int) (m' : Int)] = 0 then ks.cmpF ks' else fz [cmp3 k k', cmp3 n n', cmp3 (m : Int) (m' : Int)] by rw [HM.out, HM'.out]; exact cmpN_part k n ks k' n' ks')
  have CZ := Lib.hid (fun (h : fz [cmp3 k k', cmp3 n n', cmp3 (m : Int) (m' : Int)] = 0) => (show m = m' by have := fz3_zero h; omega))
  obtain ⟨w0, hw0, ⟨a0, a1, a2⟩, ⟨b0, b1, b2⟩, hB, hsz⟩ := two3 W k n k' n' (.slice p m c) (.slice p' m' c') 34
  obtain ⟨w1, hw1, hxs, hB1, hs1⟩ := row3 w0 k n (m : Int) 3
  obtain ⟨w2, hw2, hys, hB2, hs2⟩ := row3 w1 k' n' (m' : Int) 3
  have lx1 : w0.heap.size < w1.heap.size := by omega
  have ZA := Lib.hid (fz_at [cmp3 k k', cmp3 n n', cmp3 (m : Int) (m' : Int)])
  have ZN := Lib.hid (fz_none [cmp3 k k', cmp3 n n', cmp3 (m : Int) (m' : Int)])
  have ZG := Lib.hid (fun t (ht : t < 3) => (show [cmp3 k k', cmp3 n n', cmp3 (m : Int) (m' : Int)].getD t 0 = cmp3 ([k, n, (m : Int)].getD t 0) ([k', n', (m' : Int)].getD t 0) by
    rcases three_at ht with rfl | rfl | rfl <;> rfl))
  have ZL := Lib.hid (show [cmp3 k k', cmp3 n n', cmp3 (m : Int) (m' : Int)].length = 3 from rfl)
  have HX := Lib.hid (fun t (ht : t < 3) => (hB2.cell (p := ⟨w0.heap.size, t, none⟩) lx1).trans (hxs t ht))
  have HY := Lib.hid hys
  have h02 := hB1.trans (hB2.mono hB1.size)
  have hW := hB.trans (h02.mono hB.size)
  have lt0 : W.heap.size < w0.heap.size := by omega
  have lt1 : W.heap.size + 1 < w0.heap.size := by omega
  have f2 := (h02.cell (p := ⟨W.heap.size, 2, none⟩) lt0).trans a2
  have f5 := (h02.cell (p := ⟨W.heap.size + 1, 2, none⟩) lt1).trans b2
  have hK1 := hK.below hl hW
  have hK1' := hK'.below hl hW
  have IH := Lib.hid (fun i (hi : i < ks.len) (v v' : Value) (w : World) h1 h2 h3 => ih (ks.kids i).cnt (Nat.lt_of_lt_of_le (Fo.cnt_kids ks i hi) hN) (ks.kids i) (ks'.kids i) v v' (ks.k i) (ks.n i) (ks'.k i) (ks'.n i) lim w (Nat.le_refl _) h1 h2 h3)
  have CD := Lib.hid (fun i (hi : i < m) (h : m = m') => (show (ks.drop i).cmpF (ks'.drop i) = if cmpN (ks.k i) (ks.n i) (ks.kids i) (ks'.k i) (ks'.n i) (ks'.kids i) = 0 then (ks.drop (i + 1)).cmpF (ks'.drop (i + 1)) else cmpN (ks.k i) (ks.n i) (ks.kids i) (ks'.k i) (ks'.n i) (ks'.kids i) from cmpF_drop ks ks' i (by rw [← HM.out]; exact hi) (by rw [← HM'.out]; omega)))
  have CE := Lib.hid (fun (h : m = m') => cmpF_end ks ks' m HM.out.symm (HM'.out.symm.trans h.symm))
  have C0 := Lib.hid (show ks.cmpF ks' = (ks.drop 0).cmpF (ks'.drop 0) by rw [Fo.drop_zero, Fo.drop_zero])
  have hl1 : lim ≤ w2.heap.size := by omega
  rw [hw1] at hw2
  rw [hw0] at hw2
  have hzs : W.heap.size + 2 = w0.heap.size := hsz.symm
  have hws : w1.heap.size = w0.heap.size + 1 := hs1
  rw [hws] at HY
  rw [hsz] at HX HY
  clear ih hN hw0 hw1 hxs hys hB h02 hK hK' hB1 hB2 a0 a1 a2 b0 b1 b2 hws lx1
  generalize cmpN k n ks k' n' ks' = Z at *
  generalize [cmp3 k k', cmp3 n n', cmp3 (m : Int) (m' : Int)] = zs at *
  have w3 : w2.heap.size = W.heap.size + 4 := by omega
  clear hs1 hs2 hsz hzs lt0 lt1
  generalize hxs : [k, n, (m : Int)] = xs at HX ZG
  generalize hys : [k', n', (m' : Int)] = ys at HY ZG
  clear hxs hys
  have EX : Hid (∀ t, t < 3 → w2.cell? ⟨W.heap.size + 1 + 1, t, none⟩ = some (.int .i64 (xs.getD t 0))) := HX
  have EY : Hid (∀ t, t < 3 → w2.cell? ⟨W.heap.size + 1 + 1 + 1, t, none⟩ = some (.int .i64 (ys.getD t 0))) := HY
  clear HX HY
  go_enter Try.func27, Try.ntmps27
  go_wp2_with fail
  rw [← hw2]
  clear hw2
  go_loopw [7] (fun x wr => ∃ j : Nat, j ≤ 3 ∧ x = .int .i64 j ∧ Hid (∀ t, t < j → zs.getD t 0 = 0) ∧ Hid (Below w2.heap.size w2 wr)) (fun x _ => 3 - (intOf x).toNat)
  case atStart => exact ⟨0, by omega, rfl, Lib.hid (fun t ht => by omega), Lib.hid (Below.refl _ _)⟩
  case round =>
    obtain ⟨j, hj, rfl, HZ, HB⟩ := hrel
    by_cases hlt : j < 3
    · have hd : decide ((j : Int) < 3) = true := decide_eq_true (by omega)
      have G := ZG.out j hlt
      have hcx := (HB.out.cell (p := ⟨W.heap.size + 1 + 1, j, none⟩) (by show W.heap.size + 1 + 1 < _; omega)).trans (EX.out j hlt)
      have hcy := (HB.out.cell (p := ⟨W.heap.size + 1 + 1 + 1, j, none⟩) (by show W.heap.size + 1 + 1 + 1 < _; omega)).trans (EY.out j hlt)
      have ZA1 := Lib.hid (ZA.out j (by rw [ZL.out]; exact hlt) HZ.out)
      have ZS := Lib.hid (fun (h : zs.getD j 0 = 0) t (ht : t < j + 1) => (show zs.getD t 0 = 0 by
        by_cases e : t = j
        · rw [e]; exact h
        · exact HZ.out t (by omega)))
      have ZZ := Lib.hid (fun (h : fz zs ≠ 0) => (show Z = fz zs by rw [CP.out, if_neg h]))
      generalize zs.getD j 0 = cz at *
      generalize xs.getD j 0 = x at *
      generalize ys.getD j 0 = y at *
      clear HZ CP CZ CD CE C0 ZN hK1 hK1' IH
      rcases Int.lt_trichotomy x y with h | h | h
      · rw [cmp3_lt h] at G
        have d1 : decide (x < y) = true := decide_eq_true h
        have E1 := Lib.hid (show Z = -1 by have h1 := ZA1.out (by omega); rw [ZZ.out (by omega), h1, G])
        go_wp2_with fail
        go_quiet (fail)
        go_wp2_with fail
        go_ret
        exact ⟨by rw [E1.out]; rfl, by first | exact hW.trans (Below.mono (below_drewN HB.out _) hW.size) | exact hW.trans (Below.mono (below_drewN (below_drewN HB.out _) _) hW.size)⟩
      · rw [cmp3_eq h] at G
        subst h
        have d1 : decide (x < x) = false := decide_eq_false (by omega)
        have ZS1 := Lib.hid (ZS.out G)
        go_wp2_with fail
        go_quiet (fail)
        go_wp2_with fail
        go_quiet (fail)
        go_wp2_with fail
        go_roundw
        case rel => exact ⟨j + 1, by omega, by go_num, ZS1, Lib.hid (below_drewN HB.out _)⟩
        case measure => (first | (simp [intOf]; done) | (simp [intOf]; omega) | (simp only [intOf]; omega))
      · rw [cmp3_gt h] at G
        have d1 : decide (x < y) = false := decide_eq_false (by omega)
        have d2 : decide (y < x) = true := decide_eq_true h
        have E1 := Lib.hid (show Z = 1 by have h1 := ZA1.out (by omega); rw [ZZ.out (by omega), h1, G])
        go_wp2_with fail
        go_quiet (fail)
        go_wp2_with fail
        go_quiet (fail)
        go_wp2_with fail
        go_ret
        exact ⟨by rw [E1.out]; rfl, by first | exact hW.trans (Below.mono (below_drewN HB.out _) hW.size) | exact hW.trans (Below.mono (below_drewN (below_drewN HB.out _) _) hW.size)⟩
    · obtain rfl : j = 3 := by omega
      have E1 := ZN.out (fun t ht => HZ.out t (by rw [ZL.out] at ht; exact ht))
      have hm := CZ.out E1
      subst hm
      have R0 := Lib.hid (show Z = (ks.drop 0).cmpF (ks'.drop 0) by rw [CP.out, if_pos E1, C0.out])
      have hs := HB.out.size
      have f2 := (HB.out.cell (p := ⟨W.heap.size, 2, none⟩) (by show W.heap.size < _; omega)).trans f2
      have f5 := (HB.out.cell (p := ⟨W.heap.size + 1, 2, none⟩) (by show W.heap.size + 1 < _; omega)).trans f5
      have hK1 := hK1.below hl1 HB.out
      have hK1' := hK1'.below hl1 HB.out
      have hW := hW.trans (HB.out.mono hW.size)
      have hl1 : lim ≤ wr.heap.size := by omega
      have lX : W.heap.size < wr.heap.size := by omega
      have lY : W.heap.size + 1 < wr.heap.size := by omega
      clear CP CZ C0 ZA ZN ZG ZL EX EY HZ HB E1
      generalize W.heap.size + 1 = Y at *
      generalize hX : W.heap.size = X at *
      have HW := Lib.hid hW
      clear hW
      generalize wr = wo at *
      have hB0 := Below.refl wo.heap.size wo
      go_wp2_with fail
      go_loopw [8] (fun x wq => ∃ i : Nat, i ≤ m ∧ x = .int .i64 i ∧ Hid (Z = (ks.drop i).cmpF (ks'.drop i)) ∧ Hid (Below wo.heap.size wo wq)) (fun x _ => m - (intOf x).toNat)
      case atStart => exact ⟨0, Nat.zero_le _, rfl, R0, Lib.hid hB0⟩
      case round =>
        clear R0 hB0
        obtain ⟨i, hi, rfl, HZ, HB⟩ := hrel
        have hs := HB.out.size
        have k2 := (HB.out.cell (p := ⟨X, 2, none⟩) lX).trans f2
        have q2 := (HB.out.cell (p := ⟨Y, 2, none⟩) lY).trans f5
        by_cases hlt : i < m
        case neg =>
          obtain rfl : i = m := by omega
          have dd : decide ((i : Int) < (i : Int)) = false := decide_eq_false (by omega)
          have E := Lib.hid (show (0 : Int) = Z by rw [HZ.out, CE.out trivial])
          go_wp2_with fail
          go_ret
          exact ⟨ret_i64 E.out, by have h := HW.out; rw [← hX] at h; first | exact h.trans (HB.out.mono (by have := h.size; omega)) | (rw [← hX]; exact h.trans (HB.out.mono (by have := h.size; omega)))⟩
        obtain ⟨b, o, v, rfl, hb, g0, g1, g2, hki⟩ := (hK1.below hl1 HB.out).get hlt
        obtain ⟨b', o', v', rfl, hb', h0, h1, h2, hki'⟩ := (hK1'.below hl1 HB.out).get hlt
        obtain ⟨px, mx, cx, rfl, _, _, _⟩ := hki.shape
        obtain ⟨py, my, cy, rfl, _, _, _⟩ := hki'.shape
        have dd : decide ((i : Int) < (m : Int)) = true := decide_eq_true (by omega)
        have lb : b < wr.heap.size := by omega
        have lb' : b' < wr.heap.size := by omega
        have lX : X < wr.heap.size := by omega
        have lY : Y < wr.heap.size := by omega
        have hlr : lim ≤ wr.heap.size := by omega
        have CI := Lib.hid (fun w' (hb : Below wr.heap.size wr w') => IH.out i (by rw [← HM.out]; exact hlt) (.slice px mx cx) (.slice py my cy) w' (hki.below hlr hb) (hki'.below hlr hb) (by have := hb.size; omega))
        have DI := Lib.hid (CD.out i hlt trivial)
        have HZ1 := Lib.hid HZ.out
        rw [DI.out] at HZ1
        generalize cmpN (ks.k i) (ks.n i) (ks.kids i) (ks'.k i) (ks'.n i) (ks'.kids i) = D at *
        generalize ks.k i = kx at *
        generalize ks.n i = nx at *
        generalize ks'.k i = ky at *
        generalize ks'.n i = ny at *
        have MK := Lib.hid (fun w' (hb : Below wr.heap.size wr w') => (show w'.cell? ⟨X, 2, none⟩ = some (.slice (some ⟨b, o, none⟩) m c) ∧ w'.cell? ⟨Y, 2, none⟩ = some (.slice (some ⟨b', o', none⟩) m c') ∧ w'.cell? ⟨b, o + i * 3, none⟩ = some (.int .i64 kx) ∧ w'.cell? ⟨b, o + i * 3 + 1, none⟩ = some (.int .i64 nx) ∧ w'.cell? ⟨b, o + i * 3 + 2, none⟩ = some (.slice px mx cx) ∧ w'.cell? ⟨b', o' + i * 3, none⟩ = some (.int .i64 ky) ∧ w'.cell? ⟨b', o' + i * 3 + 1, none⟩ = some (.int .i64 ny) ∧ w'.cell? ⟨b', o' + i * 3 + 2, none⟩ = some (.slice py my cy) ∧ Below wr.heap.size wr w' from
          ⟨(hb.cell (p := ⟨X, 2, none⟩) lX).trans k2, (hb.cell (p := ⟨Y, 2, none⟩) lY).trans q2, (hb.cell (p := ⟨b, o + i * 3, none⟩) lb).trans g0, (hb.cell (p := ⟨b, o + i * 3 + 1, none⟩) lb).trans g1, (hb.cell (p := ⟨b, o + i * 3 + 2, none⟩) lb).trans g2, (hb.cell (p := ⟨b', o' + i * 3, none⟩) lb').trans h0, (hb.cell (p := ⟨b', o' + i * 3 + 1, none⟩) lb').trans h1, (hb.cell (p := ⟨b', o' + i * 3 + 2, none⟩) lb').trans h2, hb⟩))
        have KP := Lib.hid (fun w1 w' (hS : w1.cell? ⟨X, 2, none⟩ = some (.slice (some ⟨b, o, none⟩) m c) ∧ w1.cell? ⟨Y, 2, none⟩ = some (.slice (some ⟨b', o', none⟩) m c') ∧ w1.cell? ⟨b, o + i * 3, none⟩ = some (.int .i64 kx) ∧ w1.cell? ⟨b, o + i * 3 + 1, none⟩ = some (.int .i64 nx) ∧ w1.cell? ⟨b, o + i * 3 + 2, none⟩ = some (.slice px mx cx) ∧ w1.cell? ⟨b', o' + i * 3, none⟩ = some (.int .i64 ky) ∧ w1.cell? ⟨b', o' + i * 3 + 1, none⟩ = some (.int .i64 ny) ∧ w1.cell? ⟨b', o' + i * 3 + 2, none⟩ = some (.slice py my cy) ∧ Below wr.heap.size wr w1) (hb : Below w1.heap.size w1 w') => MK.out w' (hS.2.2.2.2.2.2.2.2.trans (hb.mono hS.2.2.2.2.2.2.2.2.size)))
        clear hki hki' DI HZ
        by_cases hD : D = 0
        · have dD : (D != 0) = false := by simp [hD]
          have E := Lib.hid (show Z = (ks.drop (i + 1)).cmpF (ks'.drop (i + 1)) by rw [HZ1.out, if_pos hD])
          go_wp2_with fail
          go_region_held3 (fun w' => w'.cell? ⟨X, 2, none⟩ = some (.slice (some ⟨b, o, none⟩) m c) ∧ w'.cell? ⟨Y, 2, none⟩ = some (.slice (some ⟨b', o', none⟩) m c') ∧ w'.cell? ⟨b, o + i * 3, none⟩ = some (.int .i64 kx) ∧ w'.cell? ⟨b, o + i * 3 + 1, none⟩ = some (.int .i64 nx) ∧ w'.cell? ⟨b, o + i * 3 + 2, none⟩ = some (.slice px mx cx) ∧ w'.cell? ⟨b', o' + i * 3, none⟩ = some (.int .i64 ky) ∧ w'.cell? ⟨b', o' + i * 3 + 1, none⟩ = some (.int .i64 ny) ∧ w'.cell? ⟨b', o' + i * 3 + 2, none⟩ = some (.slice py my cy) ∧ Below wr.heap.size wr w') (first | exact MK.out _ ((Below.refl _ _).drew) | assumption | (refine KP.out _ _ ?_ hb; first | assumption | exact MK.out _ ((Below.refl _ _).drew))) (first | (go_at_call 27; (with_reducible refine (CI.out _ (by go_split_ands; assumption)).mono ?_); rintro e w' ⟨rfl, hb⟩))
          rename_i hSS
          obtain ⟨_, _, _, _, _, _, _, _, hBB⟩ := hSS
          go_wp2_with fail
          go_roundw
          case rel => exact ⟨i + 1, by omega, by go_num, E, Lib.hid (HB.out.trans (hBB.mono hs))⟩
          case measure => (first | (simp [intOf]; done) | (simp [intOf]; omega) | (simp only [intOf]; omega))
        · have dD : (D != 0) = true := by simp [hD]
          have E := Lib.hid (show D = Z by rw [HZ1.out, if_neg hD])
          go_wp2_with fail
          go_region_held3 (fun w' => w'.cell? ⟨X, 2, none⟩ = some (.slice (some ⟨b, o, none⟩) m c) ∧ w'.cell? ⟨Y, 2, none⟩ = some (.slice (some ⟨b', o', none⟩) m c') ∧ w'.cell? ⟨b, o + i * 3, none⟩ = some (.int .i64 kx) ∧ w'.cell? ⟨b, o + i * 3 + 1, none⟩ = some (.int .i64 nx) ∧ w'.cell? ⟨b, o + i * 3 + 2, none⟩ = some (.slice px mx cx) ∧ w'.cell? ⟨b', o' + i * 3, none⟩ = some (.int .i64 ky) ∧ w'.cell? ⟨b', o' + i * 3 + 1, none⟩ = some (.int .i64 ny) ∧ w'.cell? ⟨b', o' + i * 3 + 2, none⟩ = some (.slice py my cy) ∧ Below wr.heap.size wr w') (first | exact MK.out _ ((Below.refl _ _).drew) | assumption | (refine KP.out _ _ ?_ hb; first | assumption | exact MK.out _ ((Below.refl _ _).drew))) (first | (go_at_call 27; (with_reducible refine (CI.out _ (by go_split_ands; assumption)).mono ?_); rintro e w' ⟨rfl, hb⟩))
          rename_i hSS
          obtain ⟨_, _, _, _, _, _, _, _, hBB⟩ := hSS
          go_wp2_with fail
          go_ret
          exact ⟨ret_i64 E.out, by have h := HW.out; rw [← hX] at h; have g := h.trans ((HB.out.trans (hBB.mono hs)).mono (by have := h.size; omega)); first | exact g | (rw [← hX]; exact g)⟩
/-- Are two trees one? -/
theorem r13_same (ks ks' : Fo) (v v' : Value) (k n k' n' : Int) (lim : Nat) (W : World) (hK : Kids W lim v ks) (hK' : Kids W lim v' ks') (hl : lim ≤ W.heap.size) :
    Calls Try.prog 15 #[.agg #[.int .i64 k, .int .i64 n, v], .agg #[.int .i64 k', .int .i64 n', v']] W fun e w' => e = .returned (.bool (decide (cmpN k n ks k' n' ks' = 0))) ∧ Below W.heap.size W w' := by
  have CI := Lib.hid (fun w' h h' g => r13_cmp ks.cnt ks ks' v v' k n k' n' lim w' (Nat.le_refl _) h h' g)
  obtain ⟨p, m, c, rfl, hc1, hc2, HM⟩ := hK.shape
  obtain ⟨p', m', c', rfl, hc1', hc2', HM'⟩ := hK'.shape
  obtain ⟨w0, hw0, ⟨a0, a1, a2⟩, ⟨b0, b1, b2⟩, hB, hsz⟩ := two3 W k n k' n' (.slice p m c) (.slice p' m' c') 34
  have hK0 := hK.below hl hB
  have hK0' := hK'.below hl hB
  have dz : (cmpN k n ks k' n' ks' == 0) = decide (cmpN k n ks k' n' ks' = 0) := rfl
  generalize decide (cmpN k n ks k' n' ks' = 0) = z at *
  generalize cmpN k n ks k' n' ks' = D at *
  go_enter Try.func15, Try.ntmps15
  go_wp2_with fail
  rw [← hw0]
  clear hw0
  refine (CI.out _ hK0 hK0' (by omega)).mono ?_
  rintro e w1 ⟨rfl, b1⟩
  go_wp2_with fail
  go_ret
  exact ⟨rfl, hB.trans (b1.mono hB.size)⟩
end Go.Proofs.Ytmbcfijhlpeddaa
