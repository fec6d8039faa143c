/- Put together by program (merge2.py): Erw Men Erf Rhs Rgt. -/
import Derived.Deep.AppendSrc
import Derived.Deep.Upon
import Derived.Maps.RangeWalk
import Derived.Deep.DeepCutAuto
import Derived.Deep.CutBlock
import Derived.BigQuiet
import Derived.Test.YtmbcfijhlpeddaaQ8
import Derived.Test.YtmbcfijhlpeddaaQ9
/- Own rows of entries that grow by append. -/
namespace Go.Proofs.Ytmbcfijhlpeddaa
open Go.ChangeShapes Go.WideShapes Go.ChangeAt Go.RowKit
set_option linter.unusedVariables false
set_option linter.unusedSimpArgs false
/-- Cells that hold these entries, five to each; kids below lim. -/
def ECells (w : World) (lim : Nat) : List Value → List En → Prop
  | xs, [] => xs = []
  | xs, e :: l => ∃ s ys, xs = .int .i64 e.a :: .int .i64 e.b :: .int .i64 e.k :: .int .i64 e.n :: s :: ys ∧ Kids w lim s e.ks ∧ ECells w lim ys l
theorem ECells.len : ∀ {w : World} {lim : Nat} {xs : List Value} {l : List En}, ECells w lim xs l → xs.length = l.length * 5
  | _, _, _, [], h => by rw [show _ = [] from h]; rfl
  | _, _, _, d :: l, ⟨v, ys, e, _, h⟩ => by rw [e]; simp [ECells.len h]; omega
theorem ECells.append : ∀ {w : World} {lim : Nat} {xs ys : List Value} {l m : List En}, ECells w lim xs l → ECells w lim ys m → ECells w lim (xs ++ ys) (l ++ m)
  | _, _, _, _, [], _, h, h2 => by rw [show _ = [] from h]; exact h2
  | _, _, _, _, d :: l, m, ⟨v, zs, e, hk, h⟩, h2 => by rw [e]; exact ⟨v, _, rfl, hk, ECells.append h h2⟩
theorem ECells.carry : ∀ {w w' : World} {lim : Nat} {xs : List Value} {l : List En}, ECells w lim xs l → Below lim w w' → ECells w' lim xs l
  | _, _, _, _, [], h, _ => h
  | _, _, _, _, d :: l, ⟨v, ys, e, hk, h⟩, hb => ⟨v, ys, e, hk.carry hb, h.carry hb⟩
theorem ECells.one : ∀ {w : World} {lim : Nat} {xs : List Value} {l : List En}, ECells w lim xs l → ∀ u ∈ xs, u.oneCell' = true
  | _, _, _, [], h, u, hu => by rw [show _ = [] from h] at hu; cases hu
  | _, _, _, d :: l, ⟨v, ys, e, hk, h⟩, u, hu => by
    obtain ⟨a, c, rfl, _⟩ := hk
    rw [e] at hu
    simp only [List.mem_cons] at hu
    rcases hu with rfl | rfl | rfl | rfl | rfl | hu
    · rfl
    · rfl
    · rfl
    · rfl
    · rfl
    · exact ECells.one h u hu
theorem ECells.at : ∀ {w : World} {lim : Nat} {xs : List Value} {l : List En} {i : Nat} {e : En}, ECells w lim xs l → l[i]? = some e → ∃ s, xs[i * 5]? = some (.int .i64 e.a) ∧ xs[i * 5 + 1]? = some (.int .i64 e.b) ∧ xs[i * 5 + 2]? = some (.int .i64 e.k) ∧ xs[i * 5 + 3]? = some (.int .i64 e.n) ∧ xs[i * 5 + 4]? = some s ∧ Kids w lim s e.ks
  | _, _, _, [], _, _, _, he => by simp at he
  | _, _, _, d :: l, 0, e, ⟨v, ys, hx, hk, h⟩, he => by
    simp at he; subst he
    rw [hx]
    exact ⟨v, rfl, rfl, rfl, rfl, rfl, hk⟩
  | _, _, _, d :: l, i + 1, e, ⟨v, ys, hx, hk, h⟩, he => by
    obtain ⟨s, h0, h1, h2, h3, h4, h5⟩ := ECells.at h (i := i) (e := e) (by simpa using he)
    refine ⟨s, ?_⟩
    rw [hx, show (i + 1) * 5 = i * 5 + 5 by omega, show i * 5 + 5 + 1 = i * 5 + 1 + 5 by omega, show i * 5 + 5 + 2 = i * 5 + 2 + 5 by omega, show i * 5 + 5 + 3 = i * 5 + 3 + 5 by omega, show i * 5 + 5 + 4 = i * 5 + 4 + 5 by omega]
    exact ⟨by simpa using h0, by simpa using h1, by simpa using h2, by simpa using h3, by simpa using h4, h5⟩
/-- An own row: in blocks from B on; kids below lim. -/
def OwnE (w : World) (lim B : Nat) (v : Value) (l : List En) : Prop := ∃ xs, w.ownsRow B 36 5 v l.length xs ∧ ECells w lim xs l
theorem OwnE.nil (w : World) (lim B : Nat) : OwnE w lim B (.slice none 0 0) [] := ⟨[], World.ownsRow_nil w B 36 5, rfl⟩
theorem OwnE.emp {w : World} {g lim B : Nat} (h : w.heap[g]? = some (.cells #[] 36 (0, 0))) (hB : B ≤ g) : OwnE w lim B (.slice (some ⟨g, 0, none⟩) 0 0) [] := ⟨[], ⟨rfl, .inr ⟨g, 0, #[], rfl, hB, h, Nat.le_refl _, by unfold maxLen; omega, rfl, rfl⟩⟩, rfl⟩
theorem OwnE.kept {w w' : World} {lim B : Nat} {v : Value} {l : List En} {row : Option Nat} (h : OwnE w lim B v l) (hb : w.grownBy w' row) (hne : v.ownBlock ≠ row ∨ v.ownBlock = none) (hlim : Below lim w w') : OwnE w' lim B v l := by
  obtain ⟨xs, h1, h2⟩ := h
  refine ⟨xs, World.ownsRow.kept h1 hb ?_, h2.carry hlim⟩
  rcases hne with hne | hne
  · exact .inr hne
  · exact .inl hne
theorem OwnE.below {w w' : World} {lim B : Nat} {v : Value} {l : List En} (h : OwnE w lim B v l) (hb : Below w.heap.size w w') (hl : lim ≤ w.heap.size) : OwnE w' lim B v l := by
  obtain ⟨xs, h1, h2⟩ := h
  exact ⟨xs, World.ownsRow.kept h1 (row := none) ⟨hb.os, hb.tape, hb.output, hb.size, fun i hi _ => hb.block i hi⟩ (by
    by_cases hn : v.ownBlock = none
    · exact .inl hn
    · exact .inr hn), h2.carry (hb.mono hl)⟩
theorem OwnE.mono {w : World} {lim B B' : Nat} {v : Value} {l : List En} (h : OwnE w lim B v l) (hb : B' ≤ B) : OwnE w lim B' v l := by
  obtain ⟨xs, ⟨h0, h1⟩, h2⟩ := h
  refine ⟨xs, ⟨h0, ?_⟩, h2⟩
  rcases h1 with h1 | ⟨g, cap, cur, e, hg, h1⟩
  · exact .inl h1
  · exact .inr ⟨g, cap, cur, e, Nat.le_trans hb hg, h1⟩
theorem ECells.mono : ∀ {w : World} {lim lim' : Nat} {xs : List Value} {l : List En}, ECells w lim xs l → lim ≤ lim' → ECells w lim' xs l
  | _, _, _, _, [], h, _ => h
  | _, _, _, _, d :: l, ⟨v, ys, e, hk, h⟩, hb => ⟨v, ys, e, hk.mono hb, h.mono hb⟩
theorem OwnE.lift {w : World} {lim lim' B : Nat} {v : Value} {l : List En} (h : OwnE w lim B v l) (hl : lim ≤ lim') : OwnE w lim' B v l := by
  obtain ⟨xs, h1, h2⟩ := h
  exact ⟨xs, h1, h2.mono hl⟩
/-- Where entries lie that are read. -/
def SrcE (w : World) (lim : Nat) (p : Option Addr) (l : List En) : Prop := ∀ i e, l[i]? = some e → ∃ b o s, p = some ⟨b, o, none⟩ ∧ w.cell? ⟨b, o + i * 5, none⟩ = some (.int .i64 e.a) ∧ w.cell? ⟨b, o + i * 5 + 1, none⟩ = some (.int .i64 e.b) ∧ w.cell? ⟨b, o + i * 5 + 2, none⟩ = some (.int .i64 e.k) ∧ w.cell? ⟨b, o + i * 5 + 3, none⟩ = some (.int .i64 e.n) ∧ w.cell? ⟨b, o + i * 5 + 4, none⟩ = some s ∧ Kids w lim s e.ks
theorem RowN.src {w : World} {lim : Nat} {p : Option Addr} {m c : Nat} {l : List En} (h : RowN w lim (.slice p m c) l) : SrcE w lim p l := fun i e he => by
  obtain ⟨b, o, hp, hb, s, c0, c1, c2, c3, c4, hk⟩ := h.get he
  exact ⟨b, o, s, hp, c0, c1, c2, c3, c4, hk⟩
/-- What an own row is. -/
theorem OwnE.form {w : World} {lim B : Nat} {v : Value} {l : List En} (h : OwnE w lim B v l) : (v = .slice none 0 0 ∧ l = []) ∨ ∃ g c, v = .slice (some ⟨g, 0, none⟩) l.length c ∧ B ≤ g ∧ g < w.heap.size ∧ l.length ≤ c ∧ c ≤ maxLen ∧ SrcE w lim (some ⟨g, 0, none⟩) l := by
  obtain ⟨xs, ⟨hl, h | ⟨g, cap, cur, rfl, hb, hh, hn, hm, hs, ht⟩⟩, h2⟩ := h
  · exact .inl ⟨h.1, List.eq_nil_of_length_eq_zero h.2⟩
  · refine .inr ⟨g, cap, rfl, hb, ?_, hn, hm, fun i e he => ?_⟩
    · by_cases hlt : g < w.heap.size
      · exact hlt
      · rw [Array.getElem?_eq_none (by omega)] at hh; cases hh
    · have hi := (List.getElem?_eq_some_iff.1 he).1
      obtain ⟨s, h0, h1, h2', h3, h4, h5⟩ := h2.at he
      have hc : ∀ j u, xs[j]? = some u → w.cell? ⟨g, j, none⟩ = some u := fun j u hj => by
        rw [cell_of_row _ _ _ _ _ _ hh, ← Array.getElem?_toList]
        rw [← ht] at hj
        rw [List.getElem?_take] at hj
        split at hj
        · exact hj
        · cases hj
      exact ⟨g, 0, s, rfl, hc _ _ (by simpa using h0), hc _ _ (by simpa using h1), hc _ _ (by simpa using h2'), hc _ _ (by simpa using h3), hc _ _ (by simpa using h4), h5⟩
theorem OwnE.rowN {w : World} {lim B : Nat} {v : Value} {l : List En} (h : OwnE w lim B v l) (hl : lim ≤ w.heap.size) : RowN w w.heap.size v l := by
  rcases h.form with ⟨rfl, rfl⟩ | ⟨g, c, rfl, hg, hgs, h1, h2, h3⟩
  · exact RowN.nought _ _
  · refine ⟨_, c, rfl, h1, h2, fun i e he => ?_⟩
    obtain ⟨b, o, s, hp, c0, c1, c2, c3, c4, hk⟩ := h3 i e he
    cases hp
    exact ⟨g, 0, rfl, hgs, s, c0, c1, c2, c3, c4, hk.mono hl⟩
theorem src_cells {w : World} {lim b : Nat} : ∀ (l : List En) (o : Nat), (∀ i e, l[i]? = some e → ∃ s, w.cell? ⟨b, o + i * 5, none⟩ = some (.int .i64 e.a) ∧ w.cell? ⟨b, o + i * 5 + 1, none⟩ = some (.int .i64 e.b) ∧ w.cell? ⟨b, o + i * 5 + 2, none⟩ = some (.int .i64 e.k) ∧ w.cell? ⟨b, o + i * 5 + 3, none⟩ = some (.int .i64 e.n) ∧ w.cell? ⟨b, o + i * 5 + 4, none⟩ = some s ∧ Kids w lim s e.ks) →
    ∃ news, ECells w lim news l ∧ ∀ j u, news[j]? = some u → w.cell? ⟨b, o + j, none⟩ = some u
  | [], o, _ => ⟨[], rfl, fun j u h => by simp at h⟩
  | e :: l, o, h => by
    obtain ⟨s, c0, c1, c2, c3, c4, hk⟩ := h 0 e rfl
    obtain ⟨news, hn, hc⟩ := src_cells l (o + 5) (fun i e he => by
      have := h (i + 1) e (by simpa using he)
      rw [show o + (i + 1) * 5 = o + 5 + i * 5 by omega] at this
      exact this)
    refine ⟨.int .i64 e.a :: .int .i64 e.b :: .int .i64 e.k :: .int .i64 e.n :: s :: news, ⟨s, news, rfl, hk, hn⟩, fun j u hj => ?_⟩
    match j, hj with
    | 0, hj => simp at hj; subst hj; simpa using c0
    | 1, hj => simp at hj; subst hj; simpa using c1
    | 2, hj => simp at hj; subst hj; simpa using c2
    | 3, hj => simp at hj; subst hj; simpa using c3
    | 4, hj => simp at hj; subst hj; simpa using c4
    | j + 5, hj =>
      have := hc j u (by simpa using hj)
      rw [show o + (j + 5) = o + 5 + j by omega]
      exact this
theorem SrcE.cells {w : World} {lim : Nat} {p : Option Addr} {l : List En} (h : SrcE w lim p l) (h0 : 0 < l.length) : ∃ b o news, p = some ⟨b, o, none⟩ ∧ ECells w lim news l ∧ ∀ j u, news[j]? = some u → w.cell? ((⟨b, o, none⟩ : Addr).add j) = some u := by
  obtain ⟨b, o, s, hp, _⟩ := h 0 _ (List.getElem?_eq_getElem h0)
  obtain ⟨news, h1, h2⟩ := src_cells (w := w) (lim := lim) (b := b) l o (fun i e he => by
    obtain ⟨b', o', s', hp', c0, c1, c2, c3, c4, hk⟩ := h i e he
    rw [hp] at hp'
    cases hp'
    exact ⟨s', c0, c1, c2, c3, c4, hk⟩)
  refine ⟨b, o, news, hp, h1, fun j u hj => ?_⟩
  rw [show (⟨b, o, none⟩ : Addr).add j = ⟨b, o + j, none⟩ by unfold Addr.add; split <;> simp_all]
  exact h2 j u hj
theorem SrcE.take {w : World} {lim : Nat} {p : Option Addr} {l : List En} (h : SrcE w lim p l) (k : Nat) : SrcE w lim p (l.take k) := fun i e he => h i e (by
  rw [List.getElem?_take] at he
  split at he
  · exact he
  · cases he)
theorem SrcE.drop {w : World} {lim g o : Nat} {l : List En} (h : SrcE w lim (some ⟨g, o, none⟩) l) (k : Nat) : SrcE w lim (some ⟨g, o + k * 5, none⟩) (l.drop k) := fun i e he => by
  obtain ⟨b, o', s, hp, c⟩ := h (k + i) e (by rw [List.getElem?_drop] at he; exact he)
  cases hp
  rw [show o + (k + i) * 5 = o + k * 5 + i * 5 by omega] at c
  exact ⟨g, o + k * 5, s, rfl, c⟩
theorem info_ent : (Try.prog.info? 36).map (fun i => (i.zero.map (fun z => z.cells.size), i.size, i.bytes)) = some (some 5, 5, 56) := by kernel_rfl
/-- 'append(l, m...)' onto an own row. -/
theorem wp_append_e {o : Oper} {a : Act} {K : Act → World → Prop} {Q : Exit → Act → World → Prop} {W : World} {lim B : Nat} {v : Value} {l l2 : List En} {p : Option Addr} {m c : Nat} (s x : Operand)
    (ho : o.op = .call { callee := .builtin .append, args := #[s, x], argTypes := #[22, 22] }) (hs : a.eval s = v) (hown : OwnE W lim B v l) (hx : a.eval x = .slice p m c) (hm : l2.length = m) (hsrc : SrcE W lim p l2)
    (hB : B ≤ W.heap.size) (hlB : lim ≤ B) (hlen : l.length + m ≤ 1000000)
    (h : ∀ v' w', OwnE w' lim B v' (l ++ l2) → W.grownBy w' v.ownBlock → K (a.put o.dst v') w') : o.wp Try.prog a W K Q := by
  obtain ⟨i0, hi⟩ : ∃ i, Try.prog.info? 36 = some i := by
    cases h0 : Try.prog.info? 36 with
    | none => have := info_ent; rw [h0] at this; cases this
    | some i => exact ⟨i, rfl⟩
  have h1 := info_ent
  rw [hi] at h1
  simp only [Option.map_some, Option.some.injEq, Prod.mk.injEq] at h1
  obtain ⟨hz, hsz, hby⟩ := h1
  obtain ⟨z, hz1, hz2⟩ : ∃ z, i0.zero = some z ∧ z.cells.size = 5 := by
    cases h0 : i0.zero with
    | none => rw [h0] at hz; cases hz
    | some z => rw [h0] at hz; simp at hz; exact ⟨z, rfl, hz⟩
  rcases Nat.eq_zero_or_pos m with h0 | h0
  · obtain rfl : l2 = [] := List.eq_nil_of_length_eq_zero (by omega)
    subst h0
    obtain ⟨q, len, cap, hv, hle⟩ : ∃ q len cap, v = .slice q len cap ∧ len ≤ cap := by
      rcases hown.form with ⟨rfl, rfl⟩ | ⟨g, c, rfl, _, _, h1, _⟩
      · exact ⟨_, _, _, rfl, Nat.le_refl _⟩
      · exact ⟨_, _, _, rfl, h1⟩
    have hsr : Src Try.prog i0.size 22 (.slice p 0 c) 0 [] W := by
      cases p with
      | none => exact Src.ofNil W Try.underlying22 c
      | some ad => exact Src.ofSlice W Try.underlying22 ad 0 c [] (by simp) (fun j u hj => by simp at hj) (fun u hu => by cases hu)
    have hrun := run_append_nothing (P := Try.prog) W 22 22 o.type 36 i0 Try.underlying22 hi q len cap hle _ hsr
    unfold Oper.wp execOp
    simp only [ho, resolve, invoke, builtin, Sem.run_bind, Sem.run_pure, Result.andThen_ok, List.map_toArray, List.map_cons, List.map_nil, hs, hx]
    rw [hv, hrun]
    rw [← hv]
    refine h v W (by rw [List.append_nil]; exact hown) ⟨rfl, rfl, rfl, Nat.le_refl _, fun i _ _ => rfl⟩
  · obtain ⟨b, of, news, rfl, hnews, hcell⟩ := hsrc.cells (by omega)
    obtain ⟨xs, ho1, ho2⟩ := hown
    refine wp_append_lies _ s x 22 ho B 36 i0 z 5 56 Try.underlying22 hi hz1 hsz hby hz2 (by decide) v l.length xs hs ho1 ⟨b, of, none⟩ m c news hx (by rw [hnews.len, hm]) hcell hnews.one h0 (by unfold maxLen; omega) (by omega) hB _ rfl ?_
    intro g cap w' h2 h3 h4 _
    refine h _ w' ⟨_, by rw [List.length_append, hm]; exact h2, (ho2.append hnews).carry ⟨h3.os, h3.tape, h3.output, h3.size, fun k hk => h3.block k (by omega) (fun e => by have := (World.ownsRow.lt ho1 k e.symm).1; omega)⟩⟩ h3
theorem OwnE.ownLe {w : World} {lim B : Nat} {v : Value} {l : List En} (h : OwnE w lim B v l) : ∀ i, v.ownBlock = some i → B ≤ i := fun i hi => by
  obtain ⟨xs, h1, h2⟩ := h
  exact (World.ownsRow.lt h1 i hi).1
theorem OwnE.ownLt {w : World} {lim B : Nat} {v : Value} {l : List En} (h : OwnE w lim B v l) : ∀ i, v.ownBlock = some i → i < w.heap.size := fun i hi => by
  obtain ⟨xs, h1, h2⟩ := h
  exact (World.ownsRow.lt h1 i hi).2
/-- One entry in a block of its own. -/
theorem src1 {w : World} {lim Y : Nat} {a b k n : Int} {s : Value} {ks : Fo} {T : TypeId} (h : w.heap[Y]? = some (.cells #[.int .i64 a, .int .i64 b, .int .i64 k, .int .i64 n, s] T (0, 0))) (hk : Kids w lim s ks) : SrcE w lim (some ⟨Y, 0, none⟩) [⟨a, b, k, n, ks⟩] := fun i e he => by
  match i, he with
  | 0, he =>
    simp at he; subst he
    obtain ⟨c0, c1, c2, c3, c4⟩ := cells5 h
    exact ⟨Y, 0, s, rfl, c0, c1, c2, c3, c4, hk⟩
end Go.Proofs.Ytmbcfijhlpeddaa
/- wmap: Entries. -/
namespace Go.Proofs.Ytmbcfijhlpeddaa
open Go.ChangeShapes Go.WideShapes Go.ChangeAt Go.RowKit
set_option linter.unusedVariables false
open Go.WideMaps Go.MapKept Go.WideElems Go.ChangeMaps
set_option linter.unusedSimpArgs false
attribute [local go_sem ↓] Go.wp_at_zero Go.wp_at_succ
/-- How many have come, read off the iterator. -/
def mcame (w : World) (r : Nat) : Nat := match w.heap[r]? with
  | some (.mapIter _ _ seen _) => seen.size
  | _ => 0
theorem MIt.came {w : World} {r G : Nat} {vs : List P6} {sn : List Nat} (h : MIt w r G vs sn) : mcame w r = sn.length := by
  unfold mcame; rw [h.r]; simp
theorem box_e (w : World) (a b k n : Int) (s : Value) (T1 T2 T3 : TypeId) : (((w.alloc (.cells #[.int .i64 a, .int .i64 b] T1)).alloc (.cells #[.int .i64 k, .int .i64 n, s] T2)).alloc (.cells #[.int .i64 a, .int .i64 b, .int .i64 k, .int .i64 n, s] T3)).heap[w.heap.size + 1 + 1]? = some (.cells #[.int .i64 a, .int .i64 b, .int .i64 k, .int .i64 n, s] T3 (0, 0)) ∧ Below w.heap.size w (((w.alloc (.cells #[.int .i64 a, .int .i64 b] T1)).alloc (.cells #[.int .i64 k, .int .i64 n, s] T2)).alloc (.cells #[.int .i64 a, .int .i64 b, .int .i64 k, .int .i64 n, s] T3)) := by
  refine ⟨?_, (((Below.refl _ _).alloc (Nat.le_refl _) _).alloc (by simp) _).alloc (by simp; omega) _⟩
  have := heap_alloc_new ((w.alloc (.cells #[.int .i64 a, .int .i64 b] T1)).alloc (.cells #[.int .i64 k, .int .i64 n, s] T2)) (.cells #[.int .i64 a, .int .i64 b, .int .i64 k, .int .i64 n, s] T3)
  simp only [World.size_alloc] at this
  exact this
theorem sn_len {vs : List P6} {sn : List Nat} (hd : sn.Nodup) (hl : ∀ j ∈ sn, j < vs.length) : sn.length ≤ vs.length := by
  have := List.nodup_range (n := vs.length)
  have h2 : sn.length ≤ (List.range vs.length).length := List.Nodup.length_le_of_subset hd (fun j hj => List.mem_range.2 (hl j hj))
  simpa using h2
set_option maxRecDepth 100000 in
set_option maxHeartbeats 8000000 in
theorem w_Entries {L : Nat} (M : Nat) (g : Option Nat) (vs : List P6) (W : World) (hS : MapS W M L g vs) (hn : vs.length ≤ 100000) :
    Calls Try.prog 17 #[.pointer (some ⟨M, 0, none⟩)] W fun e w' => ∃ v', e = .returned v' ∧ RowN w' w'.heap.size v' (sortN (vs.map P6.x)) ∧ Below W.heap.size W w' := by
  obtain ⟨m0, mf⟩ := row1c hS.m
  rcases hS.e with ⟨rfl, rfl⟩ | ⟨G, rfl, hGM, hG⟩
  · obtain ⟨r, hr⟩ : ∃ r, W.heap.size = r := ⟨_, rfl⟩
    have RG := run_range_nilMap (P := Try.prog) W 55 24 34 Try.underlying55
    have RN := run_next_nilMap (P := Try.prog) W 0 0 0 #[]
    obtain ⟨w1, hw1⟩ : ∃ w1, W.alloc (.mapIter none 0 #[] 0) = w1 := ⟨_, rfl⟩
    rw [hw1] at RG RN
    have HB0 := Lib.hid (show Below W.heap.size W w1 by rw [← hw1]; exact (Below.refl _ _).alloc (Nat.le_refl _) _)
    have CE := Lib.hid (entry_sort (.slice none 0 0) [] w1.heap.size w1 (RowN.nought _ _) (Nat.le_refl _) (by simp) (fun e he => by cases he))
    rw [hr] at RG RN
    clear hS hw1 hn
    go_enter Try.func17, Try.ntmps17
    go_wp2_with fail
    go_loopw [3] (fun x wr => x = .slice none 0 0 ∧ w1 = wr) (fun _ _ => 0)
    case atStart => exact ⟨rfl, rfl⟩
    case round =>
      obtain ⟨rfl, rfl⟩ := hrel
      go_wp2_with fail
      refine CE.out.mono ?_
      rintro e w3 ⟨g, rfl, hg, hR3, hB3⟩
      have HR3 := Lib.hid hR3
      have HB3 := Lib.hid (HB0.out.trans (hB3.mono HB0.out.size))
      clear hg hR3 hB3
      go_wp2_with fail
      go_ret
      exact ⟨_, rfl, HR3.out, HB3.out⟩
  · obtain ⟨r, hr⟩ : ∃ r, W.heap.size = r := ⟨_, rfl⟩
    have RG := run_range_map (P := Try.prog) W 55 24 34 G _ _ Try.underlying55 hG
    obtain ⟨w1, hw1⟩ : ∃ w1, W.alloc (.mapIter (some G) vs.length #[] vs.length) = w1 := ⟨_, rfl⟩
    rw [hw1] at RG
    have lG : G < W.heap.size := by
      by_cases hl : G < W.heap.size
      · exact hl
      · rw [Array.getElem?_eq_none (by omega)] at hG; cases hG
    have hS2 := hS
    have HI0 := Lib.hid (show MIt w1 r G vs [] from ⟨by rw [← hw1, ← hr]; exact heap_alloc_new _ _, by rw [← hw1]; exact (((Below.refl W.heap.size W).alloc (Nat.le_refl _) _).block _ lG).trans hG, List.nodup_nil, fun j hj => by cases hj⟩)
    have HB0 := Lib.hid (show Below W.heap.size W w1 by rw [← hw1]; exact (Below.refl _ _).alloc (Nat.le_refl _) _)
    clear hS
    go_enter Try.func17, Try.ntmps17
    go_wp2_with fail
    have hM := Lib.hid hS2
    have RN := Lib.hid mf
    clear m0 mf RG hG hw1
    go_loopw [3] (fun x wr => ∃ (sn : List Nat) (vv : Value), vv = x ∧ Hid (MIt wr r G vs sn) ∧ Hid (OwnE wr W.heap.size (W.heap.size + 1) vv ((came vs sn).map P6.x)) ∧ Hid (Below W.heap.size W wr)) (fun _ wr => vs.length - mcame wr r)
    case atStart => exact ⟨[], _, rfl, HI0, Lib.hid (OwnE.nil _ _ _), HB0⟩
    case round =>
      obtain ⟨sn, vv, rfl, HI, HO, HB⟩ := hrel
      obtain ⟨wu, rfl⟩ : ∃ wu, wu = wr := ⟨_, rfl⟩
      rcases HI.out.next 0 with ⟨hall, hrun⟩ | ⟨j, p, w2, hp, hj, hrun, hm2, hbut, hz2, hent⟩
      · have HP := Lib.hid (came_all HI.out.d HI.out.l hall)
        have HR := Lib.hid (HO.out.rowN (by have := HB.out.size; omega))
        clear hall
        have CE := Lib.hid (entry_sort vv _ wu.heap.size wu HR.out (Nat.le_refl _) (by have := came_len HI.out.l; have := sn_len HI.out.d HI.out.l; rw [List.length_map]; omega) (fun e he => by
          obtain ⟨p, hp, rfl⟩ := List.mem_map.1 he
          obtain ⟨F, q, _, _, _, _, hc⟩ := hM.out.k p (HP.out.subset hp)
          exact hc))
        clear HR
        go_wp2_with fail
        refine CE.out.mono ?_
        rintro e w3 ⟨g, rfl, hg, hR3, hB3⟩
        rw [List.length_map] at hR3
        have HR3 := Lib.hid hR3
        have HB3 := Lib.hid (HB.out.trans (hB3.mono HB.out.size))
        clear hg hR3 hB3
        go_wp2_with fail
        go_ret
        exact ⟨_, rfl, by rw [← sort_came hM.out.d HP.out]; exact HR3.out, HB3.out⟩
      · have Hp := Lib.hid hp
        have Hj := Lib.hid hj
        have HM2 := Lib.hid hm2
        have HBT := Lib.hid hbut
        have HZ2 := Lib.hid hz2
        clear hj hm2 hbut hz2
        have HK := Lib.hid (show Kids wu W.heap.size p.v p.ks from ((hM.out.k p (List.mem_of_getElem? hp)).kids.carry HB.out))
        obtain ⟨pa, pb, pk, pn, pv, pks⟩ := p
        simp only at hrun hent HK
        obtain ⟨sp, sm, sc, rfl, -, -, hsm⟩ := HK.out.shape
        have FIN := Lib.hid (fun (wb : World) (hbb : Below w2.heap.size w2 wb) (v' : Value) (w3 : World) (hO : OwnE w3 W.heap.size (W.heap.size + 1) v' ((came vs sn).map P6.x ++ [⟨pa, pb, pk, pn, pks⟩])) (hg : wb.grownBy w3 vv.ownBlock) => (show MIt w3 r G vs (sn ++ [j]) ∧ OwnE w3 W.heap.size (W.heap.size + 1) v' ((came vs (sn ++ [j])).map P6.x) ∧ Below W.heap.size W w3 ∧ vs.length - mcame w3 r < vs.length - mcame wu r from by
          have hown := HO.out.ownLe
          have hz := HZ2.out
          have hr2 := HB.out.size
          have hlr : r < w2.heap.size := by
            by_cases hl : r < w2.heap.size
            · exact hl
            · have := HM2.out.r; rw [Array.getElem?_eq_none (by omega)] at this; cases this
          have hbz := hbb.size
          have hm3 : MIt w3 r G vs (sn ++ [j]) := HM2.out.but
            ((hg.block r (by omega) (fun e => by have := hown r e.symm; omega)).trans (hbb.block r hlr))
            ((hg.block G (by omega) (fun e => by have := hown G e.symm; omega)).trans (hbb.block G (by omega)))
          refine ⟨hm3, by rw [came_snoc Hp.out, List.map_append]; exact hO, ?_, ?_⟩
          · exact ((HB.out.trans (HBT.out.b _ (by omega) (by omega))).trans (hbb.mono (by omega))).grown hg (by omega) (fun i hi => by have := hown i hi; omega)
          · rw [hm3.came, HI.out.came, List.length_append, List.length_singleton]
            have := sn_len hm3.d hm3.l
            rw [List.length_append, List.length_singleton] at this
            omega))
        have HOB := Lib.hid (fun (wb : World) (hbb : Below w2.heap.size w2 wb) => (show OwnE wb W.heap.size (W.heap.size + 1) vv ((came vs sn).map P6.x) from by
          have hb := HB.out.size
          have hz := HZ2.out
          have h2 : OwnE w2 W.heap.size (W.heap.size + 1) vv ((came vs sn).map P6.x) := by
            have hB2 := HBT.out.b W.heap.size (by omega) (by omega)
            refine HO.out.kept (row := some r) ⟨hB2.os, hB2.tape, hB2.output, by omega, fun i hi hne => HBT.out.o i hi (fun e => hne (by rw [e]))⟩ (.inl (fun e => by have := HO.out.ownLe r e; omega)) hB2
          exact h2.below hbb (by omega)))
        have SRC := Lib.hid (fun (wb : World) (hbb : Below w2.heap.size w2 wb) (Y : Nat) (T : TypeId) (hY : wb.heap[Y]? = some (.cells #[.int .i64 pa, .int .i64 pb, .int .i64 pk, .int .i64 pn, .slice sp sm sc] T (0, 0))) => src1 hY ((HK.out.carry (HBT.out.b _ (by omega) HB.out.size)).carry (hbb.mono (by have := HB.out.size; have := HZ2.out; omega))))
        have LEN := Lib.hid (show ((came vs sn).map P6.x).length + 1 ≤ 1000000 by rw [List.length_map]; have := came_len HI.out.l; have := sn_len HI.out.d HI.out.l; omega)
        have SZ := Lib.hid (show W.heap.size + 1 ≤ w2.heap.size by
          have hlr : r < w2.heap.size := by
            by_cases hl : r < w2.heap.size
            · exact hl
            · have := HM2.out.r; rw [Array.getElem?_eq_none (by omega)] at this; cases this
          omega)
        clear hp
        go_wp2_with (at_builtin; refine wpList_plain rfl fun _ hK => wp_append_e (lim := W.heap.size) (B := W.heap.size + 1) (l2 := [⟨pa, pb, pk, pn, pks⟩]) _ _ rfl rfl (HOB.out _ (box_e w2 _ _ _ _ _ _ _ _).2) rfl rfl (SRC.out _ (box_e w2 _ _ _ _ _ _ _ _).2 _ _ (box_e w2 _ _ _ _ _ _ _ _).1) (by have := SZ.out; simp only [World.size_alloc]; omega) (Nat.le_succ _) LEN.out fun v3 w3 hO3 hg3 => hK _ _ ?_; (
          clear hK
          have FF := Lib.hid (FIN.out _ (box_e w2 _ _ _ _ _ _ _ _).2 v3 w3 hO3 hg3)
          clear hO3 hg3))
        go_roundw
        case rel => exact ⟨sn ++ [j], _, rfl, Lib.hid FF.out.1, Lib.hid FF.out.2.1, Lib.hid FF.out.2.2.1⟩
        case measure => exact FF.out.2.2.2
end Go.Proofs.Ytmbcfijhlpeddaa
/- Reference 24: Ahead. -/
namespace Go.Proofs.Ytmbcfijhlpeddaa
open Go.ChangeShapes Go.WideShapes Go.ChangeAt Go.RowKit
set_option linter.unusedVariables false
set_option linter.unusedSimpArgs false
attribute [local go_sem ↓] Go.wp_at_zero Go.wp_at_succ
set_option maxRecDepth 100000 in
set_option maxHeartbeats 4000000 in
theorem r24_ahead (a b a' b' : Int) (W : World) : Calls Try.prog 30 #[.agg #[.int .i64 a, .int .i64 b], .agg #[.int .i64 a', .int .i64 b']] W fun e w' => e = .returned (.bool (Srt.klt (a, b) (a', b'))) ∧ Below W.heap.size W w' := by
  obtain ⟨w0, hw0, x0, x1, y0, y1, hB0, hs0⟩ := box2k W a b a' b' 24
  have HW0 := Lib.hid hw0.symm
  have HB0 := Lib.hid hB0
  have E := Lib.hid (show Srt.klt (a, b) (a', b') = decide (a < a' ∨ a = a' ∧ b < b') from rfl)
  generalize Srt.klt (a, b) (a', b') = z at *
  clear hw0 hB0 hs0
  rcases Int.lt_trichotomy a a' with h | h | h
  · have d1 : decide (a < a') = true := decide_eq_true h
    have E2 := Lib.hid (show z = true by rw [E.out]; exact decide_eq_true (.inl h))
    go_enter Try.func30, Try.ntmps30
    go_upto_region 1 with fail
    rw [HW0.out]
    go_wp2_with fail
    go_ret
    exact ⟨by rw [E2.out]; rfl, HB0.out⟩
  · have d1 : decide (a < a') = false := decide_eq_false (by omega)
    have d2 : (a == a') = true := by simp [h]
    have E2 := Lib.hid (show z = decide (b < b') by rw [E.out]; exact decide_eq_decide.2 (by omega))
    clear h
    go_enter Try.func30, Try.ntmps30
    go_upto_region 1 with fail
    rw [HW0.out]
    go_wp2_with fail
    go_ret
    exact ⟨by rw [E2.out]; rfl, HB0.out⟩
  · have d1 : decide (a < a') = false := decide_eq_false (by omega)
    have d2 : (a == a') = false := by simp; omega
    have E2 := Lib.hid (show z = false by rw [E.out]; exact decide_eq_false (by omega))
    clear h
    go_enter Try.func30, Try.ntmps30
    go_upto_region 1 with fail
    rw [HW0.out]
    go_wp2_with fail
    go_ret
    exact ⟨by rw [E2.out]; rfl, HB0.out⟩
end Go.Proofs.Ytmbcfijhlpeddaa
/- References 25 and 26: Has, Get. -/
namespace Go.Proofs.Ytmbcfijhlpeddaa
open Go.ChangeShapes Go.WideShapes Go.ChangeAt Go.RowKit
set_option linter.unusedVariables false
set_option linter.unusedSimpArgs false
attribute [local go_sem ↓] Go.wp_at_zero Go.wp_at_succ
/-- Is a key among these? -/
def hasE (l : List En) (a b : Int) : Bool := l.any (fun (e : En) => decide (e.a = a ∧ e.b = b))
theorem hasE_at {l : List En} {a b : Int} {i : Nat} {e : En} (h : l[i]? = some e) (h1 : e.a = a ∧ e.b = b) : hasE l a b = true := by
  unfold hasE
  rw [List.any_eq_true]
  exact ⟨e, List.mem_of_getElem? h, decide_eq_true h1⟩
theorem hasE_not {l : List En} {a b : Int} (h : ∀ (j : Nat) (e : En), l[j]? = some e → ¬ (e.a = a ∧ e.b = b)) : hasE l a b = false := by
  unfold hasE
  rw [List.any_eq_false]
  intro e he
  obtain ⟨j, hj⟩ := List.mem_iff_getElem?.1 he
  simpa using h j e hj
theorem box2e (W : World) (a b : Int) (T : TypeId) : ∃ w0 : World, w0 = W.alloc (.cells #[.int .i64 a, .int .i64 b] T) ∧ w0.cell? ⟨W.heap.size, 0, none⟩ = some (.int .i64 a) ∧ w0.cell? ⟨W.heap.size, 1, none⟩ = some (.int .i64 b) ∧ Below W.heap.size W w0 ∧ w0.heap.size = W.heap.size + 1 := by
  have h1 := heap_alloc_new W (.cells #[.int .i64 a, .int .i64 b] T)
  exact ⟨_, rfl, by rw [cell_of_row _ _ _ _ _ _ h1]; rfl, by rw [cell_of_row _ _ _ _ _ _ h1]; rfl, (Below.refl _ _).alloc (Nat.le_refl _) _, by simp⟩
set_option maxRecDepth 100000 in
set_option maxHeartbeats 8000000 in
theorem r25_has (v : Value) (l : List En) (a b : Int) (lim : Nat) (W : World) (h : RowN W lim v l) (hlim : lim ≤ W.heap.size) (hn : l.length ≤ 100000) :
    Calls Try.prog 25 #[v, .agg #[.int .i64 a, .int .i64 b]] W fun e w' => e = .returned (.bool (hasE l a b)) ∧ Below W.heap.size W w' := by
  obtain ⟨p, c, rfl, hlc, hcm⟩ := h.form
  obtain ⟨n, hnl⟩ : ∃ n, l.length = n := ⟨_, rfl⟩
  rw [hnl] at h hlc hn ⊢
  obtain ⟨w0, hw0, x0, x1, hB0, hs0⟩ := box2e W a b 24
  have HIN := Lib.hid (h.below hlim hB0)
  have HNL := Lib.hid hnl
  have hcc : c ≤ 9223372036854775807 := by unfold maxLen at hcm; omega
  have lX : W.heap.size < w0.heap.size := by omega
  have KX := Lib.hid (fun w' (hb : Below w0.heap.size w0 w') => (show w'.cell? ⟨W.heap.size, 0, none⟩ = some (.int .i64 a) ∧ w'.cell? ⟨W.heap.size, 1, none⟩ = some (.int .i64 b) from
    ⟨(hb.cell (p := ⟨W.heap.size, 0, none⟩) lX).trans x0, (hb.cell (p := ⟨W.heap.size, 1, none⟩) lX).trans x1⟩))
  have HBW := Lib.hid (fun w' (hb : Below w0.heap.size w0 w') => hB0.trans (hb.mono hB0.size))
  have HW0 := Lib.hid hw0.symm
  have HS0 := Lib.hid hs0
  have hlm : lim ≤ w0.heap.size := by omega
  obtain ⟨X, hX⟩ : ∃ X, W.heap.size = X := ⟨_, rfl⟩
  rw [hX] at KX
  have HX := Lib.hid hX
  clear h hnl hcm hw0 hB0 hs0 lX x0 x1
  go_enter Try.func25, Try.ntmps25
  go_upto_region 1 with fail
  rw [HW0.out]
  clear hX
  go_wp2_with fail
  go_loopw [5] (fun j wr => ∃ i : Nat, j = .int .i64 i ∧ i ≤ n ∧ Hid (∀ (j : Nat) (e : En), j < i → l[j]? = some e → ¬ (e.a = a ∧ e.b = b)) ∧ Hid (Below w0.heap.size w0 wr)) (fun j _ => n - (intOf j).toNat)
  case atStart => exact ⟨0, rfl, by omega, Lib.hid (fun j e hj => by omega), Lib.hid (Below.refl _ _)⟩
  case round =>
    obtain ⟨i, rfl, hi, HC, HB⟩ := hrel
    by_cases hlt : i < n
    case neg =>
      obtain rfl : i = n := by omega
      have d1 : decide ((i : Int) < (i : Int)) = false := decide_eq_false (by omega)
      have E := Lib.hid (hasE_not (l := l) (a := a) (b := b) (fun j e hj => HC.out j e (by have := (List.getElem?_eq_some_iff.1 hj).1; have := HNL.out; omega) hj))
      go_wp2_with fail
      go_ret
      exact ⟨by rw [E.out]; rfl, HBW.out _ HB.out⟩
    case pos =>
      have d1 : decide ((i : Int) < (n : Int)) = true := decide_eq_true (by omega)
      have d1' : decide (i < n) = true := decide_eq_true hlt
      have hbz := HB.out.size
      obtain ⟨e, he⟩ : ∃ e, l[i]? = some e := ⟨l[i]'(by have := HNL.out; omega), List.getElem?_eq_getElem (by have := HNL.out; omega)⟩
      obtain ⟨gb, o, rfl, hb, s, y0, y1, y2, y3, y4, hK⟩ := (HIN.out.carry (HB.out.mono hlm)).get he
      have HE := Lib.hid he
      obtain ⟨x0, x1⟩ := KX.out wr HB.out
      obtain ⟨ea, eb, ek, em, eks⟩ := e
      simp only at y0 y1 y2 y3
      have lX : X < wr.heap.size := by have := HX.out; have := HS0.out; omega
      have MK := Lib.hid (fun w' (hb2 : Below wr.heap.size wr w') => (show w'.cell? ⟨gb, o + i * 5, none⟩ = some (.int .i64 ea) ∧ w'.cell? ⟨gb, o + i * 5 + 1, none⟩ = some (.int .i64 eb) ∧ w'.cell? ⟨X, 0, none⟩ = some (.int .i64 a) ∧ w'.cell? ⟨X, 1, none⟩ = some (.int .i64 b) ∧ Below wr.heap.size wr w' from
        ⟨(hb2.cell (p := ⟨gb, o + i * 5, none⟩) (show gb < _ by omega)).trans y0, (hb2.cell (p := ⟨gb, o + i * 5 + 1, none⟩) (show gb < _ by omega)).trans y1, (hb2.cell (p := ⟨X, 0, none⟩) lX).trans x0, (hb2.cell (p := ⟨X, 1, none⟩) lX).trans x1, hb2⟩))
      have hiI : (i : Int) < (n : Int) := by omega
      have hi0 : (0 : Int) ≤ (i : Int) := by omega
      have KE := key_eq ea eb a b
      by_cases hk : ea = a ∧ eb = b
      · rw [decide_eq_true hk] at KE
        have E := Lib.hid (hasE_at HE.out hk)
        clear he hK x0 x1 y0 y1 y2 y3 y4 hb hk
        go_wp2_with fail
        go_region_held3 (fun w' => w'.cell? ⟨gb, o + i * 5, none⟩ = some (.int .i64 ea) ∧ w'.cell? ⟨gb, o + i * 5 + 1, none⟩ = some (.int .i64 eb) ∧ w'.cell? ⟨X, 0, none⟩ = some (.int .i64 a) ∧ w'.cell? ⟨X, 1, none⟩ = some (.int .i64 b) ∧ Below wr.heap.size wr w') (first | exact MK.out _ ((Below.refl _ _).drew) | assumption) (fail)
        rename_i hEnd
        obtain ⟨-, -, -, -, hBB⟩ := hEnd
        have HB2 := Lib.hid (HB.out.trans (hBB.mono HB.out.size))
        clear hBB MK
        go_wp2_with fail
        go_ret
        exact ⟨by rw [E.out]; rfl, HBW.out _ HB2.out⟩
      · rw [decide_eq_false hk] at KE
        have HC2 := Lib.hid (show ∀ (j : Nat) (e : En), j < i + 1 → l[j]? = some e → ¬ (e.a = a ∧ e.b = b) from fun j e hj hje => by
          rcases Nat.lt_or_eq_of_le (Nat.le_of_lt_succ hj) with h | rfl
          · exact HC.out j e h hje
          · rw [HE.out] at hje; cases hje; exact hk)
        clear he hK x0 x1 y0 y1 y2 y3 y4 hb hk
        go_wp2_with fail
        go_region_held3 (fun w' => w'.cell? ⟨gb, o + i * 5, none⟩ = some (.int .i64 ea) ∧ w'.cell? ⟨gb, o + i * 5 + 1, none⟩ = some (.int .i64 eb) ∧ w'.cell? ⟨X, 0, none⟩ = some (.int .i64 a) ∧ w'.cell? ⟨X, 1, none⟩ = some (.int .i64 b) ∧ Below wr.heap.size wr w') (first | exact MK.out _ ((Below.refl _ _).drew) | assumption) (fail)
        rename_i hEnd
        obtain ⟨-, -, -, -, hBB⟩ := hEnd
        have HB2 := Lib.hid (HB.out.trans (hBB.mono HB.out.size))
        clear hBB MK
        go_wp2_with fail
        go_roundw
        case rel => exact ⟨i + 1, by go_num, by omega, HC2, HB2⟩
        case measure => simp only [intOf]; omega
end Go.Proofs.Ytmbcfijhlpeddaa
/- Reference 26: Get. -/
namespace Go.Proofs.Ytmbcfijhlpeddaa
open Go.ChangeShapes Go.WideShapes Go.ChangeAt Go.RowKit
set_option linter.unusedVariables false
set_option linter.unusedSimpArgs false
attribute [local go_sem ↓] Go.wp_at_zero Go.wp_at_succ
/-- What is told of a key of a row. -/
def LookE (l : List En) (a b k n : Int) (ks : Fo) (ok : Bool) : Prop := (ok = true ∧ ∃ e ∈ l, e.a = a ∧ e.b = b ∧ k = e.k ∧ n = e.n ∧ ks = e.ks) ∨ (ok = false ∧ (∀ e ∈ l, ¬ (e.a = a ∧ e.b = b)) ∧ k = 0 ∧ n = 0 ∧ ks = .nil)
set_option maxRecDepth 100000 in
set_option maxHeartbeats 8000000 in
theorem r26_get (v : Value) (l : List En) (a b : Int) (lim : Nat) (W : World) (h : RowN W lim v l) (hlim : lim ≤ W.heap.size) (hn : l.length ≤ 100000) :
    Calls Try.prog 14 #[v, .agg #[.int .i64 a, .int .i64 b]] W fun e w' => ∃ k n v ks ok, e = .returned (.tuple #[.agg #[.int .i64 k, .int .i64 n, v], .bool ok]) ∧ Kids w' lim v ks ∧ LookE l a b k n ks ok ∧ Below W.heap.size W w' := by
  obtain ⟨p, c, rfl, hlc, hcm⟩ := h.form
  obtain ⟨n, hnl⟩ : ∃ n, l.length = n := ⟨_, rfl⟩
  rw [hnl] at h hlc hn ⊢
  obtain ⟨w0, hw0, x0, x1, r0, hB0, hs0⟩ := box2z W a b 24 34
  have HIN := Lib.hid (h.below hlim hB0)
  have HNL := Lib.hid hnl
  have hcc : c ≤ 9223372036854775807 := by unfold maxLen at hcm; omega
  have lX : W.heap.size < w0.heap.size := by omega
  have KX := Lib.hid (fun w' (hb : Below w0.heap.size w0 w') => (show w'.cell? ⟨W.heap.size, 0, none⟩ = some (.int .i64 a) ∧ w'.cell? ⟨W.heap.size, 1, none⟩ = some (.int .i64 b) from
    ⟨(hb.cell (p := ⟨W.heap.size, 0, none⟩) lX).trans x0, (hb.cell (p := ⟨W.heap.size, 1, none⟩) lX).trans x1⟩))
  have HBW := Lib.hid (fun w' (hb : Below w0.heap.size w0 w') => hB0.trans (hb.mono hB0.size))
  have RR := Lib.hid (fun w' (hb : Below w0.heap.size w0 w') => (hb.block (W.heap.size + 1) (by omega)).trans r0)
  have HW0 := Lib.hid hw0.symm
  have HS0 := Lib.hid hs0
  have hlm : lim ≤ w0.heap.size := by omega
  obtain ⟨X, hX⟩ : ∃ X, W.heap.size = X := ⟨_, rfl⟩
  rw [hX] at KX RR
  obtain ⟨R, hR⟩ : ∃ R, X + 1 = R := ⟨_, rfl⟩
  rw [hR] at RR
  have HR := Lib.hid hR
  have HX := Lib.hid hX
  clear h hnl hcm hw0 hB0 hs0 lX x0 x1 r0
  go_enter Try.func14, Try.ntmps14
  go_upto_region 1 with fail
  rw [HW0.out]
  clear hX
  go_wp2_with fail
  go_loopw [6] (fun j wr => ∃ i : Nat, j = .int .i64 i ∧ i ≤ n ∧ Hid (∀ (j : Nat) (e : En), j < i → l[j]? = some e → ¬ (e.a = a ∧ e.b = b)) ∧ Hid (Below w0.heap.size w0 wr)) (fun j _ => n - (intOf j).toNat)
  case atStart => exact ⟨0, rfl, by omega, Lib.hid (fun j e hj => by omega), Lib.hid (Below.refl _ _)⟩
  case round =>
    obtain ⟨i, rfl, hi, HC, HB⟩ := hrel
    by_cases hlt : i < n
    case neg =>
      obtain rfl : i = n := by omega
      have d1 : decide ((i : Int) < (i : Int)) = false := decide_eq_false (by omega)
      have rR := RR.out wr HB.out
      obtain ⟨y0, y1, y2, f0, f1, f2⟩ := row_cells3 rR
      have HZ := Lib.hid (u3_at rR (x := .int .i64 0) (y := .int .i64 0) (z := .slice none 0 0))
      have HBN := Lib.hid (show Below W.heap.size W (u3 wr R (.int .i64 0) (.int .i64 0) (.slice none 0 0)) from (HBW.out _ HB.out).trans (u3_below _ _ _ (by have := HX.out; have := HR.out; omega)))
      have E := Lib.hid (show ∀ e ∈ l, ¬ (e.a = a ∧ e.b = b) from fun e he => by
        obtain ⟨j, hj⟩ := List.mem_iff_getElem?.1 he
        exact HC.out j e (by have := (List.getElem?_eq_some_iff.1 hj).1; have := HNL.out; omega) hj)
      obtain ⟨wn, hwn⟩ : ∃ wn, u3 wr R (.int .i64 0) (.int .i64 0) (.slice none 0 0) = wn := ⟨_, rfl⟩
      rw [hwn] at HZ HBN
      simp only [u3] at hwn
      have HWN := Lib.hid hwn
      clear hwn rR
      go_wp2_with fail
      rw [HWN.out]
      refine bodyPost_ret (res_ct (p := 4) (a := 5) (ty := 34) rfl _ _ _ 34 #[.int .i64 0, .int .i64 0, .slice none 0 0] (0, 0) _ (.bool false) rfl rfl HZ.out Try.underlying34 rfl (by kernel_rfl)) rfl ?_
      exact ⟨0, 0, _, .nil, false, rfl, Kids.nought _ _, .inr ⟨rfl, E.out, rfl, rfl, rfl⟩, HBN.out⟩
    case pos =>
      have d1 : decide ((i : Int) < (n : Int)) = true := decide_eq_true (by omega)
      have d1' : decide (i < n) = true := decide_eq_true hlt
      have hbz := HB.out.size
      obtain ⟨e, he⟩ : ∃ e, l[i]? = some e := ⟨l[i]'(by have := HNL.out; omega), List.getElem?_eq_getElem (by have := HNL.out; omega)⟩
      obtain ⟨gb, o, rfl, hb, s, y0, y1, y2, y3, y4, hK⟩ := (HIN.out.carry (HB.out.mono hlm)).get he
      have HE := Lib.hid he
      obtain ⟨sp, sm, sc, rfl, -, -, hsm⟩ := hK.shape
      have HK := Lib.hid (show Kids wr lim (.slice sp sm sc) _ from hK)
      obtain ⟨x0, x1⟩ := KX.out wr HB.out
      obtain ⟨ea, eb, ek, em, eks⟩ := e
      simp only at y0 y1 y2 y3
      have lX : X < wr.heap.size := by have := HX.out; have := HS0.out; omega
      have MK := Lib.hid (fun w' (hb2 : Below wr.heap.size wr w') => (show w'.cell? ⟨gb, o + i * 5, none⟩ = some (.int .i64 ea) ∧ w'.cell? ⟨gb, o + i * 5 + 1, none⟩ = some (.int .i64 eb) ∧ w'.cell? ⟨X, 0, none⟩ = some (.int .i64 a) ∧ w'.cell? ⟨X, 1, none⟩ = some (.int .i64 b) ∧ Below wr.heap.size wr w' from
        ⟨(hb2.cell (p := ⟨gb, o + i * 5, none⟩) (show gb < _ by omega)).trans y0, (hb2.cell (p := ⟨gb, o + i * 5 + 1, none⟩) (show gb < _ by omega)).trans y1, (hb2.cell (p := ⟨X, 0, none⟩) lX).trans x0, (hb2.cell (p := ⟨X, 1, none⟩) lX).trans x1, hb2⟩))
      have lR : R < wr.heap.size := by have := HX.out; have := HR.out; have := HS0.out; omega
      have M2 := Lib.hid (fun w' (hb2 : Below wr.heap.size wr w') => (show w'.cell? ⟨gb, o + i * 5 + 2, none⟩ = some (.int .i64 ek) ∧ w'.cell? ⟨gb, o + i * 5 + 2 + 1, none⟩ = some (.int .i64 em) ∧ w'.cell? ⟨gb, o + i * 5 + 2 + 2, none⟩ = some (.slice sp sm sc) ∧ w'.heap[R]? = some (.cells #[.int .i64 0, .int .i64 0, .slice none 0 0] 34 (0, 0)) from
        ⟨(hb2.cell (p := ⟨gb, o + i * 5 + 2, none⟩) (show gb < _ by omega)).trans y2, (hb2.cell (p := ⟨gb, o + i * 5 + 3, none⟩) (show gb < _ by omega)).trans y3, (hb2.cell (p := ⟨gb, o + i * 5 + 4, none⟩) (show gb < _ by omega)).trans y4, (hb2.block R lR).trans (RR.out wr HB.out)⟩))
      have hiI : (i : Int) < (n : Int) := by omega
      have hi0 : (0 : Int) ≤ (i : Int) := by omega
      have KE := key_eq ea eb a b
      by_cases hk : ea = a ∧ eb = b
      · rw [decide_eq_true hk] at KE
        have E := Lib.hid hk
        clear he hK x0 x1 y0 y1 y2 y3 y4 hb hk
        go_wp2_with fail
        go_region_held3 (fun w' => w'.cell? ⟨gb, o + i * 5, none⟩ = some (.int .i64 ea) ∧ w'.cell? ⟨gb, o + i * 5 + 1, none⟩ = some (.int .i64 eb) ∧ w'.cell? ⟨X, 0, none⟩ = some (.int .i64 a) ∧ w'.cell? ⟨X, 1, none⟩ = some (.int .i64 b) ∧ Below wr.heap.size wr w') (first | exact MK.out _ ((Below.refl _ _).drew) | assumption) (fail)
        rename_i hEnd
        obtain ⟨-, -, -, -, hBB⟩ := hEnd
        have HB2 := Lib.hid (HB.out.trans (hBB.mono HB.out.size))
        obtain ⟨z2, z3, z4, rR⟩ := M2.out _ hBB
        have HK2 := Lib.hid (HK.out.below (by have := HB.out.size; omega) hBB)
        obtain ⟨wx, hwx⟩ : ∃ wx, wr.drew = wx := ⟨_, rfl⟩
        rw [hwx] at hBB HB2 z2 z3 z4 rR HK2 ⊢
        clear hwx hBB MK M2
        obtain ⟨y0, y1, y2, f0, f1, f2⟩ := row_cells3 rR
        have HZ := Lib.hid (u3_at rR (x := .int .i64 ek) (y := .int .i64 em) (z := .slice sp sm sc))
        have HBN := Lib.hid (show Below W.heap.size W (u3 wx R (.int .i64 ek) (.int .i64 em) (.slice sp sm sc)) from (HBW.out _ HB2.out).trans (u3_below _ _ _ (by have := HX.out; have := HR.out; omega)))
        have HKN := Lib.hid (show Kids (u3 wx R (.int .i64 ek) (.int .i64 em) (.slice sp sm sc)) lim (.slice sp sm sc) eks from HK2.out.carry (u3_below _ _ _ (by have := HX.out; have := HR.out; omega)))
        obtain ⟨wn, hwn⟩ : ∃ wn, u3 wx R (.int .i64 ek) (.int .i64 em) (.slice sp sm sc) = wn := ⟨_, rfl⟩
        rw [hwn] at HZ HBN HKN
        simp only [u3] at hwn
        have HWN := Lib.hid hwn
        clear hwn rR
        go_wp2_with fail
        rw [HWN.out]
        refine bodyPost_ret (res_ct (p := 4) (a := 5) (ty := 34) rfl _ _ _ 34 #[.int .i64 ek, .int .i64 em, .slice sp sm sc] (0, 0) _ (.bool true) rfl rfl HZ.out Try.underlying34 rfl (by kernel_rfl)) rfl ?_
        exact ⟨ek, em, _, eks, true, rfl, HKN.out, .inl ⟨rfl, _, List.mem_of_getElem? HE.out, E.out.1, E.out.2, rfl, rfl, rfl⟩, HBN.out⟩
      · rw [decide_eq_false hk] at KE
        have HC2 := Lib.hid (show ∀ (j : Nat) (e : En), j < i + 1 → l[j]? = some e → ¬ (e.a = a ∧ e.b = b) from fun j e hj hje => by
          rcases Nat.lt_or_eq_of_le (Nat.le_of_lt_succ hj) with h | rfl
          · exact HC.out j e h hje
          · rw [HE.out] at hje; cases hje; exact hk)
        clear he hK x0 x1 y0 y1 y2 y3 y4 hb hk
        go_wp2_with fail
        go_region_held3 (fun w' => w'.cell? ⟨gb, o + i * 5, none⟩ = some (.int .i64 ea) ∧ w'.cell? ⟨gb, o + i * 5 + 1, none⟩ = some (.int .i64 eb) ∧ w'.cell? ⟨X, 0, none⟩ = some (.int .i64 a) ∧ w'.cell? ⟨X, 1, none⟩ = some (.int .i64 b) ∧ Below wr.heap.size wr w') (first | exact MK.out _ ((Below.refl _ _).drew) | assumption) (fail)
        rename_i hEnd
        obtain ⟨-, -, -, -, hBB⟩ := hEnd
        have HB2 := Lib.hid (HB.out.trans (hBB.mono HB.out.size))
        clear hBB MK
        go_wp2_with fail
        go_roundw
        case rel => exact ⟨i + 1, by go_num, by omega, HC2, HB2⟩
        case measure => simp only [intOf]; omega
end Go.Proofs.Ytmbcfijhlpeddaa
