/- Put together by program (merge.py): Valid Live14 Wrongr Opend Tabn. -/
import Derived.Lib.SmallJoins
import Derived.JoinedCond
import Derived.Test.YtofgkhoemgimeaaD4
import Derived.Test.YtofgkhoemgimeaaD5
import Derived.Test.YtofgkhoemgimeaaD6
import Derived.Test.YtofgkhoemgimeaaD10
/- Package valid's Wrong, Check and For; reference 14's Wrong and For. -/
namespace Go.Proofs.Ytofgkhoemgimeaa
open Go.ChangeShapes Go.WideShapes Go.ChangeAt Go.RowKit
set_option linter.unusedVariables false
theorem wrongF_bd : ∀ (f : Fo) (i N : Nat) (p : List Int), wrongF f i = some p → i + f.cnt ≤ N → ∀ x ∈ p, 0 ≤ x ∧ x ≤ N
  | .nil, i, N, p, h, _ => by simp [wrongF] at h
  | .cons k n ks r, i, N, p, h, hN => by
    rw [wrongF] at h
    simp only [Fo.cnt] at hN
    by_cases h1 : (Nd.mk k n ks).ok = false
    · rw [if_pos h1] at h; cases h; intro x hx; simp at hx; omega
    · rw [if_neg h1] at h
      cases h2 : wrongF ks 0 with
      | some q =>
        rw [h2] at h; cases h
        intro x hx
        rcases List.mem_cons.1 hx with rfl | hx
        · omega
        · exact wrongF_bd ks 0 N q h2 (by omega) x hx
      | none => rw [h2] at h; exact wrongF_bd r (i + 1) N p h (by omega)
theorem wrongN_bd (k n : Int) (ks : Fo) (h : ks.cnt ≤ 1048576) : ∀ x ∈ (wrongN k n ks).getD [], (Lit.int .i64 x).wf = true := by
  intro x hx
  have hb : 0 ≤ x ∧ x ≤ 1048576 := by
    by_cases h1 : (Nd.mk k n ks).ok = false
    · rw [wrongN_bad h1] at hx; simp at hx
    · rw [wrongN_go (by simpa using h1)] at hx
      cases h2 : wrongF ks 0 with
      | none => rw [h2] at hx; simp at hx
      | some p => rw [h2] at hx; exact wrongF_bd ks 0 1048576 p h2 (by omega) x (by simpa using hx)
  simp [Lit.wf, IntKind.min, IntKind.max, IntKind.signed, IntKind.bits]
  omega
theorem wrongN_len (k n : Int) (ks : Fo) (h : ks.cnt ≤ 1048576) : ((wrongN k n ks).getD []).length ≤ 1048576 := by
  by_cases h1 : (Nd.mk k n ks).ok = false
  · rw [wrongN_bad h1]; simp
  · rw [wrongN_go (by simpa using h1)]
    cases h2 : wrongF ks 0 with
    | none => simp
    | some p => have := wrongF_len ks 0 p h2; simp; omega
/-- A path, and whether there is one. -/
def GivesW (W : World) (o : Option (List Int)) (e : Ending) (w' : World) : Prop := ∃ a n c, e = .returned (.tuple #[.slice a n c, .bool o.isSome]) ∧ RowI w' a n (o.getD []) ∧ Below W.heap.size W w'
theorem RowI.nought (w : World) : RowI w none 0 [] := ⟨rfl, .inl rfl, by simp, by omega⟩
theorem RowI.own {w : World} {B : Nat} {v : Value} {ys : List Int} (h : Owns w B 3 .i64 v ys) (hw : ∀ x ∈ ys, (Lit.int .i64 x).wf = true) (hs : ys.length ≤ 17592186044415) : ∃ a c, v = .slice a ys.length c ∧ RowI w a ys.length ys := by
  obtain ⟨a, c, rfl, hr, _, _⟩ := h.shape
  exact ⟨a, c, rfl, rfl, hr, hw, hs⟩
theorem chk_big {k n : Int} {ks : Fo} (h : 60 < ks.cnt + 1 ∨ 12 < ks.depth + 1) : chkd k n ks = 12 := if_pos h
theorem chk_wrong {k n : Int} {ks : Fo} (h : ¬ (60 < ks.cnt + 1 ∨ 12 < ks.depth + 1)) : chkd k n ks = if (wrongN k n ks).isSome then 8 else 0 := by
  unfold chkd
  rw [if_neg h, ← wrongN_all]
  cases wrongN k n ks <;> rfl
/-- What For tells, of what Check tells. -/
def fori (a b n e : Int) : Int := if hasb a = false then 4 else if ¬ (b = 0 ∨ b = 1) then 2 else if e ≠ 0 then e else if n ≠ a then 8 else 0
/-- A block of two cells, laid. -/
theorem box2 (W : World) (a b : Int) (T : TypeId) : ∃ w0 : World, w0 = W.alloc (.cells #[.int .i64 a, .int .i64 b] T) ∧ w0.cell? ⟨W.heap.size, 0, none⟩ = some (.int .i64 a) ∧ w0.cell? ⟨W.heap.size, 1, none⟩ = some (.int .i64 b) ∧ Below W.heap.size W w0 ∧ w0.heap.size = W.heap.size + 1 := by
  have hn := heap_alloc_new W (.cells #[.int .i64 a, .int .i64 b] T)
  refine ⟨_, rfl, ?_, ?_, (Below.refl _ _).alloc (Nat.le_refl _) _, by simp⟩ <;> (rw [cell_of_row _ _ _ _ _ _ hn]; rfl)
end Go.Proofs.Ytofgkhoemgimeaa
/- The page's example of layer 14. -/
namespace Go.Proofs.Ytofgkhoemgimeaa
open Go.ChangeShapes Go.WideShapes Go.ChangeAt Go.RowKit
set_option linter.unusedVariables false
theorem Kids.of1 {w : World} {lim g c : Nat} {k n : Int} {s : Value} {ks : Fo} (hg : g < lim) (c0 : w.cell? ⟨g, 0, none⟩ = some (.int .i64 k)) (c1 : w.cell? ⟨g, 1, none⟩ = some (.int .i64 n)) (c2 : w.cell? ⟨g, 2, none⟩ = some s) (hk : Kids w lim s ks) (h1 : 1 ≤ c) (h2 : c ≤ 1048576) :
    Kids w lim (.slice (some ⟨g, 0, none⟩) 1 c) (.cons k n ks .nil) := by
  obtain ⟨a, c', rfl, l1, l2, l3⟩ := hk
  exact ⟨_, c, rfl, h1, by unfold maxLen; omega, .inr ⟨g, 0, rfl, hg, c0, c1, ⟨a, c', c2, l1, l2, l3⟩, trivial⟩⟩
theorem Kids.of2 {w : World} {lim g c : Nat} {k n k' n' : Int} {s s' : Value} {ks ks' : Fo} (hg : g < lim) (c0 : w.cell? ⟨g, 0, none⟩ = some (.int .i64 k)) (c1 : w.cell? ⟨g, 1, none⟩ = some (.int .i64 n)) (c2 : w.cell? ⟨g, 2, none⟩ = some s) (hk : Kids w lim s ks)
    (d0 : w.cell? ⟨g, 3, none⟩ = some (.int .i64 k')) (d1 : w.cell? ⟨g, 4, none⟩ = some (.int .i64 n')) (d2 : w.cell? ⟨g, 5, none⟩ = some s') (hk' : Kids w lim s' ks') (h1 : 2 ≤ c) (h2 : c ≤ 1048576) :
    Kids w lim (.slice (some ⟨g, 0, none⟩) 2 c) (.cons k n ks (.cons k' n' ks' .nil)) := by
  obtain ⟨a, c', rfl, l1, l2, l3⟩ := hk
  obtain ⟨b, e', rfl, m1, m2, m3⟩ := hk'
  exact ⟨_, c, rfl, h1, by unfold maxLen; omega, .inr ⟨g, 0, rfl, hg, c0, c1, ⟨a, c', c2, l1, l2, l3⟩, hg, d0, d1, ⟨b, e', d2, m1, m2, m3⟩, trivial⟩⟩
theorem box6 (W : World) (k n k' n' : Int) (v v' : Value) (T : TypeId) : ∃ w0 : World, w0 = W.alloc (.cells #[.int .i64 k, .int .i64 n, v, .int .i64 k', .int .i64 n', v'] T) ∧ w0.cell? ⟨W.heap.size, 0, none⟩ = some (.int .i64 k) ∧ w0.cell? ⟨W.heap.size, 1, none⟩ = some (.int .i64 n) ∧ w0.cell? ⟨W.heap.size, 2, none⟩ = some v ∧ w0.cell? ⟨W.heap.size, 3, none⟩ = some (.int .i64 k') ∧ w0.cell? ⟨W.heap.size, 4, none⟩ = some (.int .i64 n') ∧ w0.cell? ⟨W.heap.size, 5, none⟩ = some v' ∧ Below W.heap.size W w0 ∧ w0.heap.size = W.heap.size + 1 := by
  have hn := heap_alloc_new W (.cells #[.int .i64 k, .int .i64 n, v, .int .i64 k', .int .i64 n', v'] T)
  refine ⟨_, rfl, ?_, ?_, ?_, ?_, ?_, ?_, (Below.refl _ _).alloc (Nat.le_refl _) _, by simp⟩ <;> (rw [cell_of_row _ _ _ _ _ _ hn]; rfl)
theorem chk_a : chkd 6 17 (.cons 3 16 .nil .nil) = 0 := by decide +kernel
theorem chk_b : chkd 5 4 (.cons 2 2 .nil (.cons 2 2 .nil .nil)) = 8 := by decide +kernel
theorem node_a : nodeB 6 17 1 16 0 = true := by decide +kernel
end Go.Proofs.Ytofgkhoemgimeaa
/- Reference 14's Wrong. -/
namespace Go.Proofs.Ytofgkhoemgimeaa
open Go.ChangeShapes Go.WideShapes Go.ChangeAt Go.RowKit
set_option linter.unusedVariables false
end Go.Proofs.Ytofgkhoemgimeaa
/- Descriptors and keys that come in: a reading is a tree, and it lies in memory. -/
namespace Go.Proofs.Ytofgkhoemgimeaa
open Go.ChangeShapes Go.WideShapes Go.ChangeAt Go.RowKit
set_option linter.unusedVariables false
open Go.Joins Go.Deep
namespace bulks
theorem one_le {H : Type} (d : DataW H) : 1 ≤ Rows.uptoBulk d := by
  cases d with
  | lit l => cases l <;> simp [Rows.uptoBulk]
  | nil => simp [Rows.uptoBulk]
  | ptr d => simp [Rows.uptoBulk]
  | slice elems spare => simp [Rows.uptoBulk]
  | agg parts => simp [Rows.uptoBulk]
  | iface t d => simp [Rows.uptoBulk]
  | map entries => simp [Rows.uptoBulk]
  | held h => simp [Rows.uptoBulk]
theorem part_le {H : Type} {d : DataW H} {l : List (DataW H)} (h : d ∈ l) : Rows.uptoBulk d ≤ Rows.uptoBulkAll l := by
  induction l with
  | nil => cases h
  | cons x r ih =>
    simp only [Rows.uptoBulkAll]
    cases List.mem_cons.1 h with
    | inl e => subst e; omega
    | inr e => have := ih e; omega
theorem len_le {H : Type} (l : List (DataW H)) : l.length ≤ Rows.uptoBulkAll l := by
  induction l with
  | nil => simp [Rows.uptoBulkAll]
  | cons x r ih => have := one_le x; simp only [Rows.uptoBulkAll, List.length_cons]; omega
theorem bound {H : Type} {l : List (DataW H)} (hk : Rows.uptoSmall H l = true) : Rows.uptoBulkAll l ≤ 1048576 := of_decide_eq_true hk
end bulks
theorem wf_i64 {n : Int} (h : (Lit.int .i64 n).wf = true) : -9223372036854775808 ≤ n ∧ n ≤ 9223372036854775807 := by
  simpa [Lit.wf, IntKind.min, IntKind.max, IntKind.signed, IntKind.bits] using h
section
variable {H : Type} {enc : TypeId × Value → H} {w : World} {sp : Nat → Bool} {held : Bool}
set_option maxRecDepth 100000 in
/-- What reads as a descriptor. -/
theorem trod_fo (L : TypeId) (f0 f1 f2 : Field) (hs : Try.prog.underlying 37 = some (.struct #[f0, f1, f2])) (hL : Try.prog.underlying f2.type = some (.slice 37)) (h0 : Try.prog.underlying f0.type = some (.int .i64)) (h1 : Try.prog.underlying f1.type = some (.int .i64))
    (o0 : f0.offset = 0) (o1 : f1.offset = 1) (o2 : f2.offset = 2) (z0 : Try.prog.cellsOf f0.type = 1) (z1 : Try.prog.cellsOf f1.type = 1) (z2 : Try.prog.cellsOf f2.type = 1) (hC : Try.prog.cellsOf 37 = 3) (base : Nat) :
    ∀ (fuel : Nat) (cs : List Value) (x : DataW H × List MemPlace), DataW.trod enc Try.prog w base sp held fuel 37 cs = some x →
    ∃ (k n : Int) (s : Value) (ks : Fo), cs = [.int .i64 k, .int .i64 n, s] ∧ Kids w w.heap.size s ks ∧ ks.wf ∧ (-9223372036854775808 ≤ k ∧ k ≤ 9223372036854775807) ∧ (-9223372036854775808 ≤ n ∧ n ≤ 9223372036854775807) ∧ ks.cnt + 1 ≤ Rows.uptoBulk x.1 := by
  intro fuel
  induction fuel using Nat.strongRecOn with
  | _ fuel ih =>
  intro cs x h
  obtain ⟨xs, m, rfl, rfl, hlen, hxs, hel⟩ := DataW.trod_struct hs h
  rw [hC] at hlen
  obtain ⟨c0, c1, c2, rfl⟩ : ∃ c0 c1 c2, cs = [c0, c1, c2] := by
    match cs, hlen with
    | [a, b, c], _ => exact ⟨a, b, c, rfl⟩
  obtain ⟨x0, x1, x2, rfl⟩ : ∃ x0 x1 x2, xs = [x0, x1, x2] := by
    have h3 : xs.length = 3 := hxs
    match xs, h3 with
    | [a, b, c], _ => exact ⟨a, b, c, rfl⟩
  have e0 := hel 0 f0 rfl
  have e1 := hel 1 f1 rfl
  have e2 := hel 2 f2 rfl
  rw [o0, z0] at e0
  rw [o1, z1] at e1
  rw [o2, z2] at e2
  simp only [List.drop_zero, List.take_succ_cons, List.take_zero, List.getElem?_cons_zero, List.drop_succ_cons, List.getElem?_cons_succ] at e0 e1 e2
  obtain ⟨k, hk, hx0, wk⟩ := DataW.trod_int h0 e0
  obtain ⟨n, hn, hx1, wn⟩ := DataW.trod_int h1 e1
  simp only [List.cons.injEq, and_true] at hk hn
  subst hk hn
  rcases DataW.trod_slice hL e2 with ⟨hc, hx2⟩ | ⟨a, len, cap, elems, rest, m2, hm2, hc, hx2, hb, hlc, hcm, hle, hels, _, _⟩
  · simp only [List.cons.injEq, and_true] at hc
    subst hc
    refine ⟨k, n, _, .nil, rfl, Kids.nought _ _, trivial, wf_i64 wk, wf_i64 wn, ?_⟩
    simp [Fo.cnt, Rows.uptoBulk]
  · simp only [List.cons.injEq, and_true] at hc
    subst hc
    rw [hC] at hels
    -- each element
    have each : ∀ i (hi : i < len), ∃ (k n : Int) (s : Value) (ks : Fo), w.cell? (a.add (i * 3)) = some (.int .i64 k) ∧ (∀ b o, a = ⟨b, o, none⟩ → w.cell? ⟨b, o + i * 3, none⟩ = some (.int .i64 k) ∧ w.cell? ⟨b, o + i * 3 + 1, none⟩ = some (.int .i64 n) ∧ w.cell? ⟨b, o + i * 3 + 2, none⟩ = some s) ∧ Kids w w.heap.size s ks ∧ ks.wf ∧ (-9223372036854775808 ≤ k ∧ k ≤ 9223372036854775807) ∧ (-9223372036854775808 ≤ n ∧ n ≤ 9223372036854775807) ∧ ks.cnt + 1 ≤ Rows.uptoBulk (elems[i]'(by omega)).1 := by
      intro i hi
      have he := hels i hi
      rw [List.getElem?_eq_getElem (show i < elems.length by omega)] at he
      obtain ⟨cs', h1', h2'⟩ := Option.bind_eq_some_iff.1 he
      obtain ⟨k', n', s', ks', rfl, g1, g2, g3, g4, g5⟩ := ih m2 (by omega) _ _ h2'
      obtain ⟨_, _, hcell⟩ := World.cells?_some h1'
      refine ⟨k', n', s', ks', ?_, ?_, g1, g2, g3, g4, g5⟩
      · have := hcell 0 (by omega)
        have e : (a.add (i * 3)).add 0 = a.add (i * 3) := by obtain ⟨b, o, sp⟩ := a; cases sp <;> simp [Addr.add]
        rw [e] at this
        simpa using this
      · rintro b o rfl
        have q0 := hcell 0 (by omega)
        have q1 := hcell 1 (by omega)
        have q2 := hcell 2 (by omega)
        rw [add_plain, add_plain] at q0 q1 q2
        exact ⟨by simpa using q0, by simpa using q1, by simpa using q2⟩
    by_cases hz : len = 0
    · subst hz
      refine ⟨k, n, _, .nil, rfl, ⟨some a, cap, rfl, by simp [Fo.len], hcm, .inl rfl⟩, trivial, wf_i64 wk, wf_i64 wn, ?_⟩
      simp [Fo.cnt, Rows.uptoBulk]
    · obtain ⟨k0, n0, s0, ks0, hc0, _⟩ := each 0 (by omega)
      obtain ⟨b, o, spot⟩ := a
      have hspot : spot = none := by
        have := World.cell?_spot hc0
        cases spot with
        | none => rfl
        | some q => simp [Addr.add] at this
      subst hspot
      have hblt : b < w.heap.size := by
        obtain ⟨_, _, _, _, _, hh, _⟩ := each 0 (by omega)
        exact block_lt_of_cell (hh b o rfl).1
      have build : ∀ j, j ≤ len → ∃ f : Fo, f.len = j ∧ f.At w w.heap.size b (o + (len - j) * 3) ∧ f.wf ∧ f.cnt ≤ Rows.uptoBulkAll ((elems.drop (len - j)).map (·.1)) := by
        intro j
        induction j with
        | zero => intro _; exact ⟨.nil, rfl, trivial, trivial, by simp [Fo.cnt]⟩
        | succ j ihj =>
          intro hj
          obtain ⟨f, hf1, hf2, hf3, hf4⟩ := ihj (by omega)
          obtain ⟨k', n', s', ks', _, hh, g1, g2, g3, g4, g5⟩ := each (len - (j + 1)) (by omega)
          obtain ⟨q0, q1, q2⟩ := hh b o rfl
          obtain ⟨a', c', rfl, l1, l2, l3⟩ := g1
          have en : len - (j + 1) + 1 = len - j := by omega
          refine ⟨.cons k' n' ks' f, by simp [Fo.len, hf1], ⟨hblt, q0, q1, ⟨a', c', q2, l1, l2, l3⟩, ?_⟩, ⟨g3, g4, g2, hf3⟩, ?_⟩
          · rw [show o + (len - (j + 1)) * 3 + 3 = o + (len - j) * 3 by omega]
            exact hf2
          · rw [List.drop_eq_getElem_cons (show len - (j + 1) < elems.length by omega), en]
            simp only [Fo.cnt, List.map_cons, Rows.uptoBulkAll]
            omega
      obtain ⟨f, hf1, hf2, hf3, hf4⟩ := build len (Nat.le_refl _)
      rw [Nat.sub_self] at hf2 hf4
      simp only [Nat.zero_mul, Nat.add_zero] at hf2
      rw [List.drop_zero] at hf4
      refine ⟨k, n, _, f, rfl, ⟨some ⟨b, o, none⟩, cap, by rw [hf1], by omega, hcm, .inr ⟨b, o, rfl, hf2⟩⟩, hf3, wf_i64 wk, wf_i64 wn, ?_⟩
      simp only [List.map_cons, List.map_nil, Rows.uptoBulk, Rows.uptoBulkAll, hx2]
      omega
end
set_option maxRecDepth 100000 in
theorem open_desc {H : Type} {enc : TypeId × Value → H} {w : World} {sp : Nat → Bool} {held : Bool} {base b0 : Nat} {r : Reach} {v : Value} {d : DataW H} {p : List MemPlace} (hv : Value.okWide Try.prog w r b0 37 v) (h : DataW.Trod enc Try.prog w base sp held 37 v d p) :
    ∃ (k n : Int) (s : Value) (ks : Fo), v = .agg #[.int .i64 k, .int .i64 n, s] ∧ Kids w w.heap.size s ks ∧ ks.wf ∧ (-9223372036854775808 ≤ k ∧ k ≤ 9223372036854775807) ∧ (-9223372036854775808 ≤ n ∧ n ≤ 9223372036854775807) ∧ ks.cnt + 1 ≤ Rows.uptoBulk d := by
  obtain ⟨cs, rfl, hsz⟩ := okWide_struct Try.underlying37 hv
  obtain ⟨fuel, hf⟩ := h
  obtain ⟨k, n, s, ks, e, g⟩ := trod_fo 35 _ _ _ Try.underlying37 Try.underlying35 Try.underlying3 Try.underlying3 rfl rfl rfl (by kernel_rfl) (by kernel_rfl) (by kernel_rfl) (by kernel_rfl) base fuel _ _ hf
  simp only [Value.cells] at e
  refine ⟨k, n, s, ks, ?_, g⟩
  congr 1
  exact Array.ext' (by simpa using e)
theorem open_struct2i {H : Type} {enc : TypeId × Value → H} {P : Program} {w : World} {r : Reach} {b0 base : Nat} {spare : Nat → Bool} {held : Bool} {t e : TypeId} {g0 g1 : Field} {k : IntKind} {v : Value} {d : DataW H} {p : List MemPlace}
    (hs : P.underlying t = some (.struct #[g0, g1])) (hone : oneCellFields P #[g0, g1] = true) (hC : P.cellsOf t = 2) (he : P.underlying e = some (.int k))
    (hv : Value.okWide P w r b0 t v) (h : DataW.Trod enc P w base spare held t v d p) (h0 : g0.type = e := by rfl) (h1 : g1.type = e := by rfl) :
    ∃ x0 x1 : Int, v = .agg #[.int k x0, .int k x1] ∧ (Lit.int k x0).wf = true ∧ (Lit.int k x1).wf = true := by
  obtain ⟨v0, v1, y0, y1, n, rfl, _, _, t0, t1⟩ := open_agg2 hs hone hC hv h
  rw [h0] at t0; rw [h1] at t1
  obtain ⟨x0, e0, _, f0⟩ := DataW.trod_int he t0
  obtain ⟨x1, e1, _, f1⟩ := DataW.trod_int he t1
  simp only [List.cons.injEq, and_true] at e0 e1
  exact ⟨x0, x1, by rw [e0, e1], f0, f1⟩
end Go.Proofs.Ytofgkhoemgimeaa
/- Names of tables: package need's and reference 15's Right and Room. -/
namespace Go.Proofs.Ytofgkhoemgimeaa
open Go.ChangeShapes Go.WideShapes Go.ChangeAt Go.RowKit
set_option linter.unusedVariables false
/-- Is it a table's name? -/
def rightb (k n m d : Int) : Bool :=
  hasb n && decide (d = 0 ∨ d = 1) && (if k = 1 ∨ k = 2 then decide (m = 0) else if k = 3 then decide (m = 0 ∧ 3 ≤ n) && prb n else if k = 4 then decide (2 ≤ n) && hasp m && decide (2 * n - 1 ≤ m) else false)
def roomi (k n m : Int) : Int := if k = 3 then n - 1 else if k = 4 then m else n
theorem rightb_dir {k n m d : Int} (h : ¬ (d = 0 ∨ d = 1)) : rightb k n m d = false := by unfold rightb; rw [decide_eq_false h, Bool.and_false, Bool.false_and]
theorem rightb_has {k n m d : Int} (h : hasb n = false) : rightb k n m d = false := by unfold rightb; rw [h, Bool.false_and, Bool.false_and]
theorem rightb_12 {k n m d : Int} (h1 : hasb n = true) (h2 : d = 0 ∨ d = 1) (h3 : k = 1 ∨ k = 2) : rightb k n m d = decide (m = 0) := by
  unfold rightb; rw [h1, decide_eq_true h2, if_pos h3]; rfl
theorem rightb_3 {n m d : Int} (h1 : hasb n = true) (h2 : d = 0 ∨ d = 1) : rightb 3 n m d = (decide (m = 0 ∧ 3 ≤ n) && prb n) := by
  unfold rightb; rw [h1, decide_eq_true h2, if_neg (by omega), if_pos rfl]; rfl
theorem rightb_4 {n m d : Int} (h1 : hasb n = true) (h2 : d = 0 ∨ d = 1) : rightb 4 n m d = (decide (2 ≤ n) && hasp m && decide (2 * n - 1 ≤ m)) := by
  unfold rightb; rw [h1, decide_eq_true h2, if_neg (by omega), if_neg (by omega), if_pos rfl]; rfl
theorem rightb_no {k n m d : Int} (h : ¬ (k = 1 ∨ k = 2) ∧ k ≠ 3 ∧ k ≠ 4) : rightb k n m d = false := by
  unfold rightb; rw [if_neg h.1, if_neg h.2.1, if_neg h.2.2, Bool.and_false]
end Go.Proofs.Ytofgkhoemgimeaa
