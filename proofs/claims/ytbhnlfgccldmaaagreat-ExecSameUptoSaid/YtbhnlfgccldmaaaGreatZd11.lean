/- Put together by program (merge.py): Valid Live14 Wrongr Opend Tabn. -/
import Derived.Lib.SmallJoins
import Derived.JoinedCond
import Derived.Test.YtbhnlfgccldmaaaGreatZd4
import Derived.Test.YtbhnlfgccldmaaaGreatZd5
import Derived.Test.YtbhnlfgccldmaaaGreatZd6
import Derived.Test.YtbhnlfgccldmaaaGreatZd10
/- Package valid's Wrong, Check and For; reference 14's Wrong and For. -/
namespace Go.Proofs.YtbhnlfgccldmaaaGreat
open Go.ChangeShapes Go.WideShapes Go.ChangeAt Go.RowKit
set_option linter.unusedVariables false
theorem wrongF_bd : ∀ (f : Fo) (i N : Nat) (p : List Int), wrongF f i = some p → i + f.cnt ≤ N → ∀ x ∈ p, 0 ≤ x ∧ x ≤ N
  | .nil, i, N, p, h, _ => by simp [wrongF] at h
  | .cons k n ks r, i, N, p, h, hN => by
    rw [wrongF] at h
    simp only [Fo.cnt] at hN
    by_cases h1 : (Nd.mk k n ks).ok = false
    · rw [if_pos h1] at h; cases h; intro x hx; simp at hx; omega
    · rw [if_neg h1] at h
      cases h2 : wrongF ks 0 with
      | some q =>
        rw [h2] at h; cases h
        intro x hx
        rcases List.mem_cons.1 hx with rfl | hx
        · omega
        · exact wrongF_bd ks 0 N q h2 (by omega) x hx
      | none => rw [h2] at h; exact wrongF_bd r (i + 1) N p h (by omega)
theorem wrongN_bd (k n : Int) (ks : Fo) (h : ks.cnt ≤ 1048576) : ∀ x ∈ (wrongN k n ks).getD [], (Lit.int .i64 x).wf = true := by
  intro x hx
  have hb : 0 ≤ x ∧ x ≤ 1048576 := by
    by_cases h1 : (Nd.mk k n ks).ok = false
    · rw [wrongN_bad h1] at hx; simp at hx
    · rw [wrongN_go (by simpa using h1)] at hx
      cases h2 : wrongF ks 0 with
      | none => rw [h2] at hx; simp at hx
      | some p => rw [h2] at hx; exact wrongF_bd ks 0 1048576 p h2 (by omega) x (by simpa using hx)
  simp [Lit.wf, IntKind.min, IntKind.max, IntKind.signed, IntKind.bits]
  omega
theorem wrongN_len (k n : Int) (ks : Fo) (h : ks.cnt ≤ 1048576) : ((wrongN k n ks).getD []).length ≤ 1048576 := by
  by_cases h1 : (Nd.mk k n ks).ok = false
  · rw [wrongN_bad h1]; simp
  · rw [wrongN_go (by simpa using h1)]
    cases h2 : wrongF ks 0 with
    | none => simp
    | some p => have := wrongF_len ks 0 p h2; simp; omega
/-- A path, and whether there is one. -/
def GivesW (W : World) (o : Option (List Int)) (e : Ending) (w' : World) : Prop := ∃ a n c, e = .returned (.tuple #[.slice a n c, .bool o.isSome]) ∧ RowI w' a n (o.getD []) ∧ Below W.heap.size W w'
theorem RowI.nought (w : World) : RowI w none 0 [] := ⟨rfl, .inl rfl, by simp, by omega⟩
theorem RowI.own {w : World} {B : Nat} {v : Value} {ys : List Int} (h : Owns w B 3 .i64 v ys) (hw : ∀ x ∈ ys, (Lit.int .i64 x).wf = true) (hs : ys.length ≤ 17592186044415) : ∃ a c, v = .slice a ys.length c ∧ RowI w a ys.length ys := by
  obtain ⟨a, c, rfl, hr, _, _⟩ := h.shape
  exact ⟨a, c, rfl, rfl, hr, hw, hs⟩
set_option maxRecDepth 100000 in
theorem valid_wrong (ks : Fo) (v : Value) (k n : Int) (lim : Nat) (W : World) (hN : ks.cnt ≤ 1048576) (hK : Kids W lim v ks) (hl : lim ≤ W.heap.size) (wn : -9223372036854775808 ≤ n ∧ n ≤ 9223372036854775807) (wf : ks.wf) :
    Calls Tryz.prog 95 #[.agg #[.int .i64 k, .int .i64 n, v]] W (GivesW W (wrongN k n ks)) := by
  obtain ⟨p, m, c, rfl, hc1, hc2, HM⟩ := hK.shape
  obtain ⟨w0, hw0, c0, c1, c2, hB, hsz⟩ := box3 W k n (.slice p m c) 24
  have hb1 := (Below.refl w0.heap.size w0).alloc (Nat.le_refl _) (.cells #[.slice none 0 0] 37)
  have hL := Bx.new w0 37 (.slice none 0 0) _ rfl
  have hsz1 : (w0.alloc (.cells #[.slice none 0 0] 37)).heap.size = w0.heap.size + 1 := by simp
  have BR := Lib.hid (wrong_any _ ks (.slice p m c) k n lim w0.heap.size (w0.heap.size + 1) (.slice none 0 0) [] (w0.alloc (.cells #[.slice none 0 0] 37)) (Nat.le_refl _) hN (by simpa using hN) ((hK.below hl hB).below (by omega) hb1) (by omega) (by omega) (by omega) hL (Owns.nil _ _ _ _) wn wf)
  obtain ⟨w1, hw1⟩ : ∃ w1, w1 = w0.alloc (.cells #[.slice none 0 0] 37) := ⟨_, rfl⟩
  rw [← hw1] at BR hb1 hsz1
  have hlt : W.heap.size < w0.heap.size := by omega
  have f0 := (hb1.cell (p := ⟨W.heap.size, 0, none⟩) hlt).trans c0
  have f1 := (hb1.cell (p := ⟨W.heap.size, 1, none⟩) hlt).trans c1
  have f2 := (hb1.cell (p := ⟨W.heap.size, 2, none⟩) hlt).trans c2
  have hBB := hB.trans (hb1.mono hB.size)
  rw [hsz] at BR
  rw [hw1, hw0] at f0 f1 f2
  rw [hw0] at hw1
  have WB := Lib.hid (wrongN_bd k n ks hN)
  have WL := Lib.hid (wrongN_len k n ks hN)
  clear hL hb1 hB c0 c1 c2 hw0
  generalize wrongN k n ks = o at *
  cases o with
  | none =>
    go_enter Tryz.func95, Tryz.ntmps95
    go_wp2_with fail
    rw [← hw1]
    refine BR.out.mono ?_
    rintro e w2 ⟨s2, rfl, hQ2, hO2, hB2⟩
    go_wp2_with fail
    go_ret2
    exact ⟨_, _, _, rfl, RowI.nought _, hBB.trans (hB2.mono (by omega))⟩
  | some q =>
    go_enter Tryz.func95, Tryz.ntmps95
    go_wp2_with fail
    rw [← hw1]
    refine BR.out.mono ?_
    rintro e w2 ⟨s2, rfl, hQ2, hO2, hB2⟩
    have q0 := hQ2.cell
    obtain ⟨a2, c2, rfl, hR2⟩ := RowI.own hO2 (by simpa using WB.out) (by have := WL.out; simp at this ⊢; omega)
    have HR2 := Lib.hid hR2
    clear hR2 hO2 hQ2
    go_wp2_with fail
    go_ret2
    exact ⟨_, _, _, rfl, by simpa using HR2.out, hBB.trans (hB2.mono (by omega))⟩
theorem chk_big {k n : Int} {ks : Fo} (h : 60 < ks.cnt + 1 ∨ 12 < ks.depth + 1) : chkd k n ks = 12 := if_pos h
theorem chk_wrong {k n : Int} {ks : Fo} (h : ¬ (60 < ks.cnt + 1 ∨ 12 < ks.depth + 1)) : chkd k n ks = if (wrongN k n ks).isSome then 8 else 0 := by
  unfold chkd
  rw [if_neg h, ← wrongN_all]
  cases wrongN k n ks <;> rfl
set_option maxRecDepth 100000 in
theorem valid_check (ks : Fo) (v : Value) (k n : Int) (lim : Nat) (W : World) (hN : ks.cnt ≤ 1048576) (hK : Kids W lim v ks) (hl : lim ≤ W.heap.size) (wn : -9223372036854775808 ≤ n ∧ n ≤ 9223372036854775807) (wf : ks.wf) :
    Calls Tryz.prog 58 #[.agg #[.int .i64 k, .int .i64 n, v]] W fun e w' => e = .returned (.int .i64 (chkd k n ks)) ∧ Below W.heap.size W w' := by
  have BG := Lib.hid (fun W h1 h2 => bulk_big ks v k n lim W h1 h2)
  have WR := Lib.hid (fun W h1 h2 => valid_wrong ks v k n lim W hN h1 h2 wn wf)
  have CB := Lib.hid (fun h => chk_big (k := k) (n := n) (ks := ks) h)
  have CW := Lib.hid (fun h => chk_wrong (k := k) (n := n) (ks := ks) h)
  obtain ⟨p, m, c, rfl, hc1, hc2, HM⟩ := hK.shape
  obtain ⟨w0, hw0, c0, c1, c2, hB, hsz⟩ := box3 W k n (.slice p m c) 24
  have hK0 := hK.below hl hB
  have x0 : W.heap.size < w0.heap.size := by omega
  generalize chkd k n ks = z at *
  generalize wrongN k n ks = o at *
  by_cases hbig : 60 < ks.cnt + 1 ∨ 12 < ks.depth + 1
  · rw [decide_eq_true hbig] at BG
    have E := Lib.hid (CB.out hbig)
    clear CB CW hbig
    go_enter Tryz.func58, Tryz.ntmps58
    go_wp2_with fail
    rw [← hw0]
    clear hw0
    refine (BG.out _ hK0 (by omega)).mono ?_
    rintro e w1 ⟨rfl, b1⟩
    go_wp2_with fail
    go_ret
    exact ⟨ret_i64 E.out.symm, hB.trans (b1.mono hB.size)⟩
  · rw [decide_eq_false hbig] at BG
    have E := Lib.hid (CW.out hbig)
    clear CB CW hbig
    cases o with
    | none =>
      go_enter Tryz.func58, Tryz.ntmps58
      go_wp2_with fail
      rw [← hw0]
      clear hw0
      refine (BG.out _ hK0 (by omega)).mono ?_
      rintro e w1 ⟨rfl, b1⟩
      have hK1 := hK0.below (by omega) b1
      have k0 := (b1.cell (p := ⟨W.heap.size, 0, none⟩) x0).trans c0
      have k1 := (b1.cell (p := ⟨W.heap.size, 1, none⟩) x0).trans c1
      have k2 := (b1.cell (p := ⟨W.heap.size, 2, none⟩) x0).trans c2
      have hs1 := b1.size
      clear c0 c1 c2
      go_wp2_with fail
      refine (WR.out _ hK1 (by omega)).mono ?_
      rintro e w2 ⟨a, n', c', rfl, _, b2⟩
      go_wp2_with fail
      go_ret
      exact ⟨ret_i64 (by rw [E.out]; rfl), hB.trans ((b1.trans (b2.mono hs1)).mono hB.size)⟩
    | some q =>
      go_enter Tryz.func58, Tryz.ntmps58
      go_wp2_with fail
      rw [← hw0]
      clear hw0
      refine (BG.out _ hK0 (by omega)).mono ?_
      rintro e w1 ⟨rfl, b1⟩
      have hK1 := hK0.below (by omega) b1
      have k0 := (b1.cell (p := ⟨W.heap.size, 0, none⟩) x0).trans c0
      have k1 := (b1.cell (p := ⟨W.heap.size, 1, none⟩) x0).trans c1
      have k2 := (b1.cell (p := ⟨W.heap.size, 2, none⟩) x0).trans c2
      have hs1 := b1.size
      clear c0 c1 c2
      go_wp2_with fail
      refine (WR.out _ hK1 (by omega)).mono ?_
      rintro e w2 ⟨a, n', c', rfl, _, b2⟩
      go_wp2_with fail
      go_ret
      exact ⟨ret_i64 (by rw [E.out]; rfl), hB.trans ((b1.trans (b2.mono hs1)).mono hB.size)⟩
end Go.Proofs.YtbhnlfgccldmaaaGreat
/- The page's example of layer 14. -/
namespace Go.Proofs.YtbhnlfgccldmaaaGreat
open Go.ChangeShapes Go.WideShapes Go.ChangeAt Go.RowKit
set_option linter.unusedVariables false
theorem Kids.of1 {w : World} {lim g c : Nat} {k n : Int} {s : Value} {ks : Fo} (hg : g < lim) (c0 : w.cell? ⟨g, 0, none⟩ = some (.int .i64 k)) (c1 : w.cell? ⟨g, 1, none⟩ = some (.int .i64 n)) (c2 : w.cell? ⟨g, 2, none⟩ = some s) (hk : Kids w lim s ks) (h1 : 1 ≤ c) (h2 : c ≤ 1048576) :
    Kids w lim (.slice (some ⟨g, 0, none⟩) 1 c) (.cons k n ks .nil) := by
  obtain ⟨a, c', rfl, l1, l2, l3⟩ := hk
  exact ⟨_, c, rfl, h1, by unfold maxLen; omega, .inr ⟨g, 0, rfl, hg, c0, c1, ⟨a, c', c2, l1, l2, l3⟩, trivial⟩⟩
theorem Kids.of2 {w : World} {lim g c : Nat} {k n k' n' : Int} {s s' : Value} {ks ks' : Fo} (hg : g < lim) (c0 : w.cell? ⟨g, 0, none⟩ = some (.int .i64 k)) (c1 : w.cell? ⟨g, 1, none⟩ = some (.int .i64 n)) (c2 : w.cell? ⟨g, 2, none⟩ = some s) (hk : Kids w lim s ks)
    (d0 : w.cell? ⟨g, 3, none⟩ = some (.int .i64 k')) (d1 : w.cell? ⟨g, 4, none⟩ = some (.int .i64 n')) (d2 : w.cell? ⟨g, 5, none⟩ = some s') (hk' : Kids w lim s' ks') (h1 : 2 ≤ c) (h2 : c ≤ 1048576) :
    Kids w lim (.slice (some ⟨g, 0, none⟩) 2 c) (.cons k n ks (.cons k' n' ks' .nil)) := by
  obtain ⟨a, c', rfl, l1, l2, l3⟩ := hk
  obtain ⟨b, e', rfl, m1, m2, m3⟩ := hk'
  exact ⟨_, c, rfl, h1, by unfold maxLen; omega, .inr ⟨g, 0, rfl, hg, c0, c1, ⟨a, c', c2, l1, l2, l3⟩, hg, d0, d1, ⟨b, e', d2, m1, m2, m3⟩, trivial⟩⟩
end Go.Proofs.YtbhnlfgccldmaaaGreat
/- Reference 14's Wrong. -/
namespace Go.Proofs.YtbhnlfgccldmaaaGreat
open Go.ChangeShapes Go.WideShapes Go.ChangeAt Go.RowKit
set_option linter.unusedVariables false
end Go.Proofs.YtbhnlfgccldmaaaGreat
/- Descriptors and keys that come in: a reading is a tree, and it lies in memory. -/
namespace Go.Proofs.YtbhnlfgccldmaaaGreat
open Go.ChangeShapes Go.WideShapes Go.ChangeAt Go.RowKit
set_option linter.unusedVariables false
open Go.Joins Go.Deep
namespace bulks
theorem bound {H : Type} {l : List (DataW H)} (hk : Rows.uptoSmall H l = true) : Rows.uptoBulkAll l ≤ 1048576 := of_decide_eq_true hk
end bulks
theorem wf_i64 {n : Int} (h : (Lit.int .i64 n).wf = true) : -9223372036854775808 ≤ n ∧ n ≤ 9223372036854775807 := by
  simpa [Lit.wf, IntKind.min, IntKind.max, IntKind.signed, IntKind.bits] using h
section
variable {H : Type} {enc : TypeId × Value → H} {w : World} {sp : Nat → Bool} {held : Bool}
set_option maxRecDepth 100000 in
/-- What reads as a descriptor. -/
theorem trod_fo (L : TypeId) (f0 f1 f2 : Field) (hs : Tryz.prog.underlying 24 = some (.struct #[f0, f1, f2])) (hL : Tryz.prog.underlying f2.type = some (.slice 24)) (h0 : Tryz.prog.underlying f0.type = some (.int .i64)) (h1 : Tryz.prog.underlying f1.type = some (.int .i64))
    (o0 : f0.offset = 0) (o1 : f1.offset = 1) (o2 : f2.offset = 2) (z0 : Tryz.prog.cellsOf f0.type = 1) (z1 : Tryz.prog.cellsOf f1.type = 1) (z2 : Tryz.prog.cellsOf f2.type = 1) (hC : Tryz.prog.cellsOf 24 = 3) (base : Nat) :
    ∀ (fuel : Nat) (cs : List Value) (x : DataW H × List MemPlace), DataW.trod enc Tryz.prog w base sp held fuel 24 cs = some x →
    ∃ (k n : Int) (s : Value) (ks : Fo), cs = [.int .i64 k, .int .i64 n, s] ∧ Kids w w.heap.size s ks ∧ ks.wf ∧ (-9223372036854775808 ≤ k ∧ k ≤ 9223372036854775807) ∧ (-9223372036854775808 ≤ n ∧ n ≤ 9223372036854775807) ∧ ks.cnt + 1 ≤ Rows.uptoBulk x.1 := by
  intro fuel
  induction fuel using Nat.strongRecOn with
  | _ fuel ih =>
  intro cs x h
  obtain ⟨xs, m, rfl, rfl, hlen, hxs, hel⟩ := DataW.trod_struct hs h
  rw [hC] at hlen
  obtain ⟨c0, c1, c2, rfl⟩ : ∃ c0 c1 c2, cs = [c0, c1, c2] := by
    match cs, hlen with
    | [a, b, c], _ => exact ⟨a, b, c, rfl⟩
  obtain ⟨x0, x1, x2, rfl⟩ : ∃ x0 x1 x2, xs = [x0, x1, x2] := by
    have h3 : xs.length = 3 := hxs
    match xs, h3 with
    | [a, b, c], _ => exact ⟨a, b, c, rfl⟩
  have e0 := hel 0 f0 rfl
  have e1 := hel 1 f1 rfl
  have e2 := hel 2 f2 rfl
  rw [o0, z0] at e0
  rw [o1, z1] at e1
  rw [o2, z2] at e2
  simp only [List.drop_zero, List.take_succ_cons, List.take_zero, List.getElem?_cons_zero, List.drop_succ_cons, List.getElem?_cons_succ] at e0 e1 e2
  obtain ⟨k, hk, hx0, wk⟩ := DataW.trod_int h0 e0
  obtain ⟨n, hn, hx1, wn⟩ := DataW.trod_int h1 e1
  simp only [List.cons.injEq, and_true] at hk hn
  subst hk hn
  rcases DataW.trod_slice hL e2 with ⟨hc, hx2⟩ | ⟨a, len, cap, elems, rest, m2, hm2, hc, hx2, hb, hlc, hcm, hle, hels, _, _⟩
  · simp only [List.cons.injEq, and_true] at hc
    subst hc
    refine ⟨k, n, _, .nil, rfl, Kids.nought _ _, trivial, wf_i64 wk, wf_i64 wn, ?_⟩
    simp [Fo.cnt, Rows.uptoBulk]
  · simp only [List.cons.injEq, and_true] at hc
    subst hc
    rw [hC] at hels
    -- each element
    have each : ∀ i (hi : i < len), ∃ (k n : Int) (s : Value) (ks : Fo), w.cell? (a.add (i * 3)) = some (.int .i64 k) ∧ (∀ b o, a = ⟨b, o, none⟩ → w.cell? ⟨b, o + i * 3, none⟩ = some (.int .i64 k) ∧ w.cell? ⟨b, o + i * 3 + 1, none⟩ = some (.int .i64 n) ∧ w.cell? ⟨b, o + i * 3 + 2, none⟩ = some s) ∧ Kids w w.heap.size s ks ∧ ks.wf ∧ (-9223372036854775808 ≤ k ∧ k ≤ 9223372036854775807) ∧ (-9223372036854775808 ≤ n ∧ n ≤ 9223372036854775807) ∧ ks.cnt + 1 ≤ Rows.uptoBulk (elems[i]'(by omega)).1 := by
      intro i hi
      have he := hels i hi
      rw [List.getElem?_eq_getElem (show i < elems.length by omega)] at he
      obtain ⟨cs', h1', h2'⟩ := Option.bind_eq_some_iff.1 he
      obtain ⟨k', n', s', ks', rfl, g1, g2, g3, g4, g5⟩ := ih m2 (by omega) _ _ h2'
      obtain ⟨_, _, hcell⟩ := World.cells?_some h1'
      refine ⟨k', n', s', ks', ?_, ?_, g1, g2, g3, g4, g5⟩
      · have := hcell 0 (by omega)
        have e : (a.add (i * 3)).add 0 = a.add (i * 3) := by obtain ⟨b, o, sp⟩ := a; cases sp <;> simp [Addr.add]
        rw [e] at this
        simpa using this
      · rintro b o rfl
        have q0 := hcell 0 (by omega)
        have q1 := hcell 1 (by omega)
        have q2 := hcell 2 (by omega)
        rw [add_plain, add_plain] at q0 q1 q2
        exact ⟨by simpa using q0, by simpa using q1, by simpa using q2⟩
    by_cases hz : len = 0
    · subst hz
      refine ⟨k, n, _, .nil, rfl, ⟨some a, cap, rfl, by simp [Fo.len], hcm, .inl rfl⟩, trivial, wf_i64 wk, wf_i64 wn, ?_⟩
      simp [Fo.cnt, Rows.uptoBulk]
    · obtain ⟨k0, n0, s0, ks0, hc0, _⟩ := each 0 (by omega)
      obtain ⟨b, o, spot⟩ := a
      have hspot : spot = none := by
        have := World.cell?_spot hc0
        cases spot with
        | none => rfl
        | some q => simp [Addr.add] at this
      subst hspot
      have hblt : b < w.heap.size := by
        obtain ⟨_, _, _, _, _, hh, _⟩ := each 0 (by omega)
        exact block_lt_of_cell (hh b o rfl).1
      have build : ∀ j, j ≤ len → ∃ f : Fo, f.len = j ∧ f.At w w.heap.size b (o + (len - j) * 3) ∧ f.wf ∧ f.cnt ≤ Rows.uptoBulkAll ((elems.drop (len - j)).map (·.1)) := by
        intro j
        induction j with
        | zero => intro _; exact ⟨.nil, rfl, trivial, trivial, by simp [Fo.cnt]⟩
        | succ j ihj =>
          intro hj
          obtain ⟨f, hf1, hf2, hf3, hf4⟩ := ihj (by omega)
          obtain ⟨k', n', s', ks', _, hh, g1, g2, g3, g4, g5⟩ := each (len - (j + 1)) (by omega)
          obtain ⟨q0, q1, q2⟩ := hh b o rfl
          obtain ⟨a', c', rfl, l1, l2, l3⟩ := g1
          have en : len - (j + 1) + 1 = len - j := by omega
          refine ⟨.cons k' n' ks' f, by simp [Fo.len, hf1], ⟨hblt, q0, q1, ⟨a', c', q2, l1, l2, l3⟩, ?_⟩, ⟨g3, g4, g2, hf3⟩, ?_⟩
          · rw [show o + (len - (j + 1)) * 3 + 3 = o + (len - j) * 3 by omega]
            exact hf2
          · rw [List.drop_eq_getElem_cons (show len - (j + 1) < elems.length by omega), en]
            simp only [Fo.cnt, List.map_cons, Rows.uptoBulkAll]
            omega
      obtain ⟨f, hf1, hf2, hf3, hf4⟩ := build len (Nat.le_refl _)
      rw [Nat.sub_self] at hf2 hf4
      simp only [Nat.zero_mul, Nat.add_zero] at hf2
      rw [List.drop_zero] at hf4
      refine ⟨k, n, _, f, rfl, ⟨some ⟨b, o, none⟩, cap, by rw [hf1], by omega, hcm, .inr ⟨b, o, rfl, hf2⟩⟩, hf3, wf_i64 wk, wf_i64 wn, ?_⟩
      simp only [List.map_cons, List.map_nil, Rows.uptoBulk, Rows.uptoBulkAll, hx2]
      omega
end
set_option maxRecDepth 100000 in
theorem open_desc {H : Type} {enc : TypeId × Value → H} {w : World} {sp : Nat → Bool} {held : Bool} {base b0 : Nat} {r : Reach} {v : Value} {d : DataW H} {p : List MemPlace} (hv : Value.okWide Tryz.prog w r b0 24 v) (h : DataW.Trod enc Tryz.prog w base sp held 24 v d p) :
    ∃ (k n : Int) (s : Value) (ks : Fo), v = .agg #[.int .i64 k, .int .i64 n, s] ∧ Kids w w.heap.size s ks ∧ ks.wf ∧ (-9223372036854775808 ≤ k ∧ k ≤ 9223372036854775807) ∧ (-9223372036854775808 ≤ n ∧ n ≤ 9223372036854775807) ∧ ks.cnt + 1 ≤ Rows.uptoBulk d := by
  obtain ⟨cs, rfl, hsz⟩ := okWide_struct Tryz.underlying24 hv
  obtain ⟨fuel, hf⟩ := h
  obtain ⟨k, n, s, ks, e, g⟩ := trod_fo 22 _ _ _ Tryz.underlying24 Tryz.underlying22 Tryz.underlying3 Tryz.underlying3 rfl rfl rfl (by kernel_rfl) (by kernel_rfl) (by kernel_rfl) (by kernel_rfl) base fuel _ _ hf
  simp only [Value.cells] at e
  refine ⟨k, n, s, ks, ?_, g⟩
  congr 1
  exact Array.ext' (by simpa using e)
end Go.Proofs.YtbhnlfgccldmaaaGreat
/- Names of tables: package need's and reference 15's Right and Room. -/
namespace Go.Proofs.YtbhnlfgccldmaaaGreat
open Go.ChangeShapes Go.WideShapes Go.ChangeAt Go.RowKit
set_option linter.unusedVariables false
/-- Is it a table's name? -/
def rightb (k n m d : Int) : Bool :=
  hasb n && decide (d = 0 ∨ d = 1) && (if k = 1 ∨ k = 2 then decide (m = 0) else if k = 3 then decide (m = 0 ∧ 3 ≤ n) && prb n else if k = 4 then decide (2 ≤ n) && hasp m && decide (2 * n - 1 ≤ m) else false)
def roomi (k n m : Int) : Int := if k = 3 then n - 1 else if k = 4 then m else n
theorem rightb_dir {k n m d : Int} (h : ¬ (d = 0 ∨ d = 1)) : rightb k n m d = false := by unfold rightb; rw [decide_eq_false h, Bool.and_false, Bool.false_and]
theorem rightb_has {k n m d : Int} (h : hasb n = false) : rightb k n m d = false := by unfold rightb; rw [h, Bool.false_and, Bool.false_and]
theorem rightb_12 {k n m d : Int} (h1 : hasb n = true) (h2 : d = 0 ∨ d = 1) (h3 : k = 1 ∨ k = 2) : rightb k n m d = decide (m = 0) := by
  unfold rightb; rw [h1, decide_eq_true h2, if_pos h3]; rfl
theorem rightb_3 {n m d : Int} (h1 : hasb n = true) (h2 : d = 0 ∨ d = 1) : rightb 3 n m d = (decide (m = 0 ∧ 3 ≤ n) && prb n) := by
  unfold rightb; rw [h1, decide_eq_true h2, if_neg (by omega), if_pos rfl]; rfl
theorem rightb_4 {n m d : Int} (h1 : hasb n = true) (h2 : d = 0 ∨ d = 1) : rightb 4 n m d = (decide (2 ≤ n) && hasp m && decide (2 * n - 1 ≤ m)) := by
  unfold rightb; rw [h1, decide_eq_true h2, if_neg (by omega), if_neg (by omega), if_pos rfl]; rfl
theorem rightb_no {k n m d : Int} (h : ¬ (k = 1 ∨ k = 2) ∧ k ≠ 3 ∧ k ≠ 4) : rightb k n m d = false := by
  unfold rightb; rw [if_neg h.1, if_neg h.2.1, if_neg h.2.2, Bool.and_false]
set_option maxRecDepth 100000 in
set_option maxHeartbeats 4000000 in
theorem need_right (k n m d : Int) (W : World) (wn : -9223372036854775808 ≤ n ∧ n ≤ 9223372036854775807) :
    Calls Tryz.prog 91 #[.agg #[.int .i64 k, .int .i64 n, .int .i64 m, .int .i64 d]] W fun e w' => e = .returned (.bool (rightb k n m d)) ∧ Below W.heap.size W w' := by
  have H := Lib.hid (fun w => root_has n w wn.1 wn.2)
  have FP := Lib.hid (fun w => fact_prime n w)
  have SH := Lib.hid (fun w => stock_has m w)
  have hB := (Below.refl W.heap.size W).alloc (Nat.le_refl _) (.cells #[.int .i64 k, .int .i64 n, .int .i64 m, .int .i64 d] 82)
  cases hh : hasb n with
  | false =>
    rw [hh] at H
    have E := Lib.hid (rightb_has (k := k) (m := m) (d := d) hh)
    go_enter Tryz.func91, Tryz.ntmps91
    go_wp2_with fail
    refine (H.out _).mono ?_
    rintro e w1 ⟨rfl, rfl⟩
    go_wp2_with fail
    go_ret
    exact ⟨by rw [E.out]; rfl, hB⟩
  | true =>
  rw [hh] at H
  obtain ⟨n1, n2, _⟩ := hasb_dvd hh
  have w2 : IntKind.i64.wrap (2 * n - 1) = 2 * n - 1 := IntWalk.i64_in _ (by omega)
  have w3 : IntKind.i64.wrap (2 * n) = 2 * n := IntWalk.i64_in _ (by omega)
  by_cases hd : d = 0 ∨ d = 1
  case neg =>
    have E := Lib.hid (rightb_dir (k := k) (n := n) (m := m) hd)
    have e0 : (d != 0) = true := by simp; omega
    have e1 : (d != 1) = true := by simp; omega
    go_enter Tryz.func91, Tryz.ntmps91
    go_wp2_with fail
    refine (H.out _).mono ?_
    rintro e w1 ⟨rfl, rfl⟩
    go_wp2_with fail
    go_ret
    exact ⟨by rw [E.out]; rfl, hB⟩
  by_cases hk : k = 1 ∨ k = 2
  · have E := Lib.hid (rightb_12 (m := m) hh hd hk)
    have hm : (m == 0) = decide (m = 0) := rfl
    generalize decide (m = 0) = z at *
    rcases hd with rfl | rfl <;> rcases hk with rfl | rfl
    all_goals
      go_enter Tryz.func91, Tryz.ntmps91
      go_wp2_with fail
      refine (H.out _).mono ?_
      rintro e w1 ⟨rfl, rfl⟩
      go_wp2_with fail
      go_ret
      exact ⟨by rw [E.out]; rfl, hB⟩
  by_cases hk3 : k = 3
  · subst hk3
    by_cases hm : m = 0
    · by_cases h3 : 3 ≤ n
      · have E := Lib.hid (show rightb 3 n m d = prb n by rw [rightb_3 hh hd, decide_eq_true ⟨hm, h3⟩, Bool.true_and])
        subst hm
        have d3 : decide (3 ≤ n) = true := decide_eq_true h3
        generalize prb n = z at *
        rcases hd with rfl | rfl
        all_goals
          go_enter Tryz.func91, Tryz.ntmps91
          go_wp2_with fail
          refine (H.out _).mono ?_
          rintro e w1 ⟨rfl, rfl⟩
          go_wp2_with fail
          refine (FP.out _).mono ?_
          rintro e w2 ⟨rfl, b1⟩
          go_wp2_with fail
          go_ret
          exact ⟨by rw [E.out]; rfl, hB.trans (b1.mono hB.size)⟩
      · have E := Lib.hid (show rightb 3 n m d = false by rw [rightb_3 hh hd, decide_eq_false (fun h => h3 h.2), Bool.false_and])
        subst hm
        have d3 : decide (3 ≤ n) = false := decide_eq_false h3
        rcases hd with rfl | rfl
        all_goals
          go_enter Tryz.func91, Tryz.ntmps91
          go_wp2_with fail
          refine (H.out _).mono ?_
          rintro e w1 ⟨rfl, rfl⟩
          go_wp2_with fail
          go_ret
          exact ⟨by rw [E.out]; rfl, hB⟩
    · have E := Lib.hid (show rightb 3 n m d = false by rw [rightb_3 hh hd, decide_eq_false (fun h => hm h.1), Bool.false_and])
      have e0 : (m == 0) = false := by simp; omega
      rcases hd with rfl | rfl
      all_goals
        go_enter Tryz.func91, Tryz.ntmps91
        go_wp2_with fail
        refine (H.out _).mono ?_
        rintro e w1 ⟨rfl, rfl⟩
        go_wp2_with fail
        go_ret
        exact ⟨by rw [E.out]; rfl, hB⟩
  by_cases hk4 : k = 4
  · subst hk4
    by_cases h2 : 2 ≤ n
    · have d2 : decide (2 ≤ n) = true := decide_eq_true h2
      have E := Lib.hid (show rightb 4 n m d = (hasp m && decide (2 * n - 1 ≤ m)) by rw [rightb_4 hh hd, d2, Bool.true_and])
      generalize hasp m = y at *
      generalize hz : decide (2 * n - 1 ≤ m) = z at *
      rcases hd with rfl | rfl
      all_goals
        cases y
        all_goals
          cases z
          all_goals
            go_enter Tryz.func91, Tryz.ntmps91
            go_wp2_with fail
            refine (H.out _).mono ?_
            rintro e w1 ⟨rfl, rfl⟩
            go_wp2_with fail
            refine (SH.out _).mono ?_
            rintro e w1 ⟨rfl, rfl⟩
            go_wp2_with fail
            go_ret
            exact ⟨by rw [E.out]; rfl, hB⟩
    · have d2 : decide (2 ≤ n) = false := decide_eq_false h2
      have E := Lib.hid (show rightb 4 n m d = false by rw [rightb_4 hh hd, d2, Bool.false_and, Bool.false_and])
      rcases hd with rfl | rfl
      all_goals
        go_enter Tryz.func91, Tryz.ntmps91
        go_wp2_with fail
        refine (H.out _).mono ?_
        rintro e w1 ⟨rfl, rfl⟩
        go_wp2_with fail
        go_ret
        exact ⟨by rw [E.out]; rfl, hB⟩
  have E := Lib.hid (rightb_no (n := n) (m := m) (d := d) ⟨hk, hk3, hk4⟩)
  have e1 : (k == 1) = false := by simp; omega
  have e2 : (k == 2) = false := by simp; omega
  have e3 : (k == 3) = false := by simp; omega
  have e4 : (k == 4) = false := by simp; omega
  rcases hd with rfl | rfl
  all_goals
    go_enter Tryz.func91, Tryz.ntmps91
    go_wp2_with fail
    refine (H.out _).mono ?_
    rintro e w1 ⟨rfl, rfl⟩
    go_wp2_with fail
    go_ret
    exact ⟨by rw [E.out]; rfl, hB⟩
end Go.Proofs.YtbhnlfgccldmaaaGreat
