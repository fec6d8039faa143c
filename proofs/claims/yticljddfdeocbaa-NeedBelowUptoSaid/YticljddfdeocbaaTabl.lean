/- Package need's Tables, whole. -/
import Derived.Test.YticljddfdeocbaaTabs
namespace Go.Proofs.Yticljddfdeocbaa
open Go.ChangeShapes Go.WideShapes Go.ChangeAt Go.RowKit
set_option linter.unusedVariables false
open Go.WideMaps Go.MapKept Go.WideElems Go.ChangeMaps
theorem flat_at (l : List Nam) : ∀ i (hi : i < l.length), (l.flatMap Nam.cells)[i * 4]? = some (.int .i64 l[i].k) ∧ (l.flatMap Nam.cells)[i * 4 + 1]? = some (.int .i64 l[i].n) ∧ (l.flatMap Nam.cells)[i * 4 + 2]? = some (.int .i64 l[i].m) ∧ (l.flatMap Nam.cells)[i * 4 + 3]? = some (.int .i64 l[i].d) := by
  induction l with
  | nil => intro i hi; simp at hi
  | cons x r ih =>
    intro i hi
    cases i with
    | zero => simp [Nam.cells]
    | succ i =>
      have := ih i (by simpa using hi)
      have e : ∀ j, ((x :: r).flatMap Nam.cells)[(i + 1) * 4 + j]? = (r.flatMap Nam.cells)[i * 4 + j]? := fun j => by
        rw [List.flatMap_cons, List.getElem?_append_right (by simp [Nam.cells]; omega)]
        congr 1
        simp [Nam.cells]; omega
      have e0 := e 0
      simp only [Nat.add_zero] at e0
      refine ⟨e0.trans (by simpa using this.1), (e 1).trans (by simpa using this.2.1), (e 2).trans (by simpa using this.2.2.1), (e 3).trans (by simpa using this.2.2.2)⟩
theorem OwnNm.row {w : World} {B : Nat} {v : Value} {l : List Nam} (h : OwnNm w B v l) : ∃ a c, v = .slice a l.length c ∧ NRow w w.heap.size a l ∧ l.length ≤ c ∧ c ≤ maxLen := by
  have h0 := h
  obtain ⟨hl, h | ⟨g, cap, cur, rfl, hb, hh, hn, hm, hs, ht⟩⟩ := h
  · obtain ⟨rfl, hn⟩ := h
    have : l = [] := List.length_eq_zero_iff.1 hn
    subst this
    exact ⟨none, 0, rfl, NRow.nought _ _ _, Nat.le_refl _, by unfold maxLen; omega⟩
  · have hg : g < w.heap.size := Nat.lt_of_not_le fun hn => by rw [Array.getElem?_eq_none hn] at hh; cases hh
    refine ⟨_, cap, rfl, .inr ⟨g, 0, rfl, hg, fun i hi => ?_⟩, hn, hm⟩
    obtain ⟨f0, f1, f2, f3⟩ := flat_at l i hi
    have hx : ∀ j, j < 4 → w.cell? ⟨g, 0 + i * 4 + j, none⟩ = (l.flatMap Nam.cells)[i * 4 + j]? := fun j hj => by
      rw [cell_of_row w g _ _ _ _ hh, ← ht, List.getElem?_take, if_pos (by omega)]
      simp
    have hx0 := hx 0 (by omega)
    simp only [Nat.add_zero] at hx0
    exact ⟨hx0.trans f0, (hx 1 (by omega)).trans f1, (hx 2 (by omega)).trans f2, (hx 3 (by omega)).trans f3⟩
/-- The answer is a slice of names, and an error. -/
def GivesT (w : World) (l : List Nam) (er : Int) (e : Ending) (w' : World) : Prop := ∃ a c, e = .returned (.tuple #[.slice a l.length c, .int .i64 er]) ∧ NRow w' w'.heap.size a l ∧ l.length ≤ c ∧ c ≤ 9223372036854775807 ∧ Below w.heap.size w w'
/-- What Tables tells of a tree. -/
def tabsL (k n : Int) (ks : Fo) (dir : Int) : List Nam := if ckd dir (chkd k n ks) = 0 then once (namesN k n ks dir) else []
theorem named_wf {k n dir a : Int} (wn : -9223372036854775808 ≤ n ∧ n ≤ 9223372036854775807) (wd : -9223372036854775808 ≤ dir ∧ dir ≤ 9223372036854775807) (wa : -9223372036854775808 ≤ a ∧ a ≤ 9223372036854775807) : ∀ x ∈ namedL k n dir a, x.wf := by
  intro x hx
  unfold namedL at hx
  unfold Nam.wf
  split at hx
  · simp at hx; subst hx; exact ⟨by dsimp only; omega, wn, by dsimp only; omega, wd⟩
  · split at hx
    · simp at hx; subst hx; exact ⟨by dsimp only; omega, wn, by dsimp only; omega, wd⟩
    · split at hx
      · simp at hx
        rcases hx with rfl | rfl
        · exact ⟨by dsimp only; omega, wn, by dsimp only; omega, wd⟩
        · exact ⟨by dsimp only; omega, wn, wa, wd⟩
      · simp at hx
theorem Fo.n_wf (f : Fo) (h : f.wf) (i : Nat) : -9223372036854775808 ≤ f.n i ∧ f.n i ≤ 9223372036854775807 := by
  by_cases hi : i < f.len
  · exact (Fo.wf_at f i h hi).2.1
  · have : ∀ (f : Fo) (i : Nat), f.len ≤ i → f.n i = 0 := by
      intro f
      induction f with
      | nil => intro i _; rfl
      | cons k n ks r _ ih =>
        intro i hi
        cases i with
        | zero => simp [Fo.len] at hi
        | succ i => exact ih i (by simp [Fo.len] at hi; omega)
    rw [this f i (by omega)]; omega
theorem under_wf {k dir : Int} (wd : -9223372036854775808 ≤ dir ∧ dir ≤ 9223372036854775807) : -9223372036854775808 ≤ under k dir ∧ under k dir ≤ 9223372036854775807 := by
  unfold under; split <;> omega
theorem names_wf : ∀ (f : Fo) (dir : Int), f.wf → (-9223372036854775808 ≤ dir ∧ dir ≤ 9223372036854775807) → ∀ x ∈ f.names dir, x.wf
  | .nil, _, _, _, x, hx => by simp [Fo.names] at hx
  | .cons k n ks r, dir, hw, wd, x, hx => by
    rw [Fo.names] at hx
    simp only [List.mem_append] at hx
    rcases hx with (hx | hx) | hx
    · exact named_wf hw.2.1 wd (Fo.n_wf ks hw.2.2.1 0) x hx
    · exact names_wf ks _ hw.2.2.1 (under_wf wd) x hx
    · exact names_wf r dir hw.2.2.2 wd x hx
theorem namesN_wf {k n dir : Int} {ks : Fo} (wn : -9223372036854775808 ≤ n ∧ n ≤ 9223372036854775807) (wd : -9223372036854775808 ≤ dir ∧ dir ≤ 9223372036854775807) (hw : ks.wf) : ∀ x ∈ namesN k n ks dir, x.wf := by
  intro x hx
  rw [namesN, List.mem_append] at hx
  rcases hx with hx | hx
  · exact named_wf wn wd (Fo.n_wf ks hw 0) x hx
  · exact names_wf ks _ hw (under_wf wd) x hx
/-- What Tables keeps, all names being in order. -/
def InvC (lim Tc Lc Mb B : Nat) (L : List Nam) (O : Nat → Prop) (w : World) : Prop := InvB lim Tc Lc Mb B L O w ∧ ∀ y ∈ L, y.wf
theorem InvC.hlt {lim Tc Lc Mb B : Nat} {L : List Nam} {O : Nat → Prop} {w : World} (h : InvC lim Tc Lc Mb B L O w) : ∀ X, O X → lim ≤ X ∧ X < w.heap.size := fun X hX => by
  obtain ⟨⟨s, hT, hM, hL1, hO1, ⟨d1, d2, d3, d4, d5, d6, d7, d8, d9, d10⟩, hOw⟩, _⟩ := h
  rcases (hOw X).1 hX with rfl | rfl | h
  · exact ⟨d3, by omega⟩
  · exact ⟨d2, by omega⟩
  · have := World.ownsRow.lt hO1 X h
    exact ⟨by omega, this.2⟩
theorem InvC.below {lim Tc Lc Mb B : Nat} {L : List Nam} {O : Nat → Prop} {w w' : World} (h : InvC lim Tc Lc Mb B L O w) (hb : Below w.heap.size w w') : InvC lim Tc Lc Mb B L O w' := by
  obtain ⟨⟨s, hT, hM, hL1, hO1, ⟨d1, d2, d3, d4, d5, d6, d7, d8, d9, d10⟩, hOw⟩, hw⟩ := h
  exact ⟨⟨s, hT.below hb, (hb.block Mb (by omega)).trans hM, hL1.below hb, hO1.below hb, ⟨d1, d2, d3, d4, d5, d6, d7, d8, d9, by have := hb.size; omega⟩, hOw⟩, hw⟩
theorem tables_step (lim Tc Lc Mb B M : Nat) (hMM : M ≤ 4194304) (L : List Nam) (O : Nat → Prop) (x : Nam) (w : World) (hxw : x.wf) (hL : L.length < M) (hI : InvC lim Tc Lc Mb B L O w) :
    Calls Try.prog 82 #[.agg #[.int .i64 x.k, .int .i64 x.n, .int .i64 x.m, .int .i64 x.d], .pointer (some ⟨Tc, 0, none⟩), .pointer (some ⟨Lc, 0, none⟩)] w (Tells (InvC lim Tc Lc Mb B) O (L ++ [x]) w) := by
  obtain ⟨hI, hw⟩ := hI
  have hw2 : ∀ y ∈ L ++ [x], y.wf := fun y hy => by
    rcases List.mem_append.1 hy with h | h
    · exact hw y h
    · simp only [List.mem_singleton] at h; rw [h]; exact hxw
  have hh : Calls Try.prog 82 #[.agg #[.int .i64 x.k, .int .i64 x.n, .int .i64 x.m, .int .i64 x.d], .pointer (some ⟨Tc, 0, none⟩), .pointer (some ⟨Lc, 0, none⟩)] w (Tells (InvB lim Tc Lc Mb B) O (L ++ [x]) w) := by
    by_cases hx : x ∈ L
    · exact tables_there lim Tc Lc Mb B L O x w hw hx (by omega) hI
    · exact tables_gone lim Tc Lc Mb B L O x w hw hxw hx (by omega) hI
  exact hh.mono fun e w' ⟨h1, O', h2, h3⟩ => ⟨h1, O', ⟨h2, hw2⟩, h3⟩
set_option maxRecDepth 100000 in
set_option maxHeartbeats 4000000 in
theorem need_tables (ks : Fo) (v : Value) (k n dir : Int) (lim : Nat) (W : World) (hN : ks.cnt ≤ 1048576) (hK : Kids W lim v ks) (hl : lim ≤ W.heap.size) (wn : -9223372036854775808 ≤ n ∧ n ≤ 9223372036854775807) (wf : ks.wf) :
    Calls Try.prog 47 #[.agg #[.int .i64 k, .int .i64 n, v], .int .i64 dir] W (GivesT W (tabsL k n ks dir) (ckd dir (chkd k n ks))) := by
  have CK := Lib.hid (fun W h1 h2 => need_check ks v k n dir lim W hN h1 h2 wn wf)
  obtain ⟨p, m, c, rfl, hc1, hc2, HM⟩ := hK.shape
  obtain ⟨w0, hw0, c0, c1, c2, hB0, hsz0⟩ := box3 W k n (.slice p m c) 24
  have hK0 := hK.below hl hB0
  have xa : W.heap.size < w0.heap.size := by omega
  by_cases hck : ckd dir (chkd k n ks) = 0
  case neg =>
    have Z := Lib.hid (show tabsL k n ks dir = [] from if_neg hck)
    generalize tabsL k n ks dir = z at *
    generalize ckd dir (chkd k n ks) = ck at *
    have d0 : (ck != 0) = true := by simp [hck]
    go_enter Try.func47, Try.ntmps47
    go_wp2_with fail
    rw [← hw0]
    clear hw0
    refine (CK.out _ hK0 (by omega)).mono ?_
    rintro e w2 ⟨rfl, b2⟩
    go_wp2_with fail
    go_ret2
    exact ⟨none, 0, by rw [Z.out]; rfl, by rw [Z.out]; exact NRow.nought _ _ _, by rw [Z.out]; exact Nat.le_refl _, by omega, hB0.trans (b2.mono hB0.size)⟩
  have Z := Lib.hid (show tabsL k n ks dir = once (namesN k n ks dir) from if_pos hck)
  obtain ⟨hd, hc0⟩ := ckd_dir hck
  obtain ⟨s1, s2, s3⟩ := chk_sane hc0
  have GW := Lib.hid (namesN_wf (k := k) (n := n) (dir := dir) (ks := ks) wn (by omega) wf)
  rw [hck] at CK ⊢
  generalize tabsL k n ks dir = z at *
  have EA := Lib.hid (fun (Tc Lc Mb B : Nat) (W' : World) (O : Nat → Prop) (hK' : Kids W' lim (.slice p m c) ks) (hl' : lim ≤ W'.heap.size) (hI : InvC lim Tc Lc Mb B [] O W') =>
    each_tables ⟨Tc, 0, none⟩ ⟨Lc, 0, none⟩ lim 4194304 (InvC lim Tc Lc Mb B) (fun L O w h => InvC.hlt h) (fun L O w w' h hb => InvC.below h hb) Nam.wf (fun L O y w hy hL h => tables_step lim Tc Lc Mb B 4194304 (by omega) L O y w hy hL h) 1048576 ks (.slice p m c) k n dir [] O W' hN (by omega) hK' hl' s1 s2 (by simp; omega) GW.out hI)
  have hmm := @run_makeMap Try.prog
  clear hck hd hc0 s1 s2 hK GW
  go_enter Try.func47, Try.ntmps47
  go_wp2_with fail
  rw [← hw0]
  clear hw0
  refine (CK.out _ hK0 (by omega)).mono ?_
  rintro e w1 ⟨rfl, b1⟩
  have hK1 := hK0.below (by omega) b1
  have hs1 := b1.size
  have f0 := (b1.cell (p := ⟨W.heap.size, 0, none⟩) xa).trans c0
  have f1 := (b1.cell (p := ⟨W.heap.size, 1, none⟩) xa).trans c1
  have f2 := (b1.cell (p := ⟨W.heap.size, 2, none⟩) xa).trans c2
  have hBB := hB0.trans (b1.mono hB0.size)
  clear c0 c1 c2 hB0 b1 hK0 CK
  obtain ⟨w4, hw4⟩ : ∃ w4, w4 = ((w1.alloc (.cells #[.slice none 0 0] 59)).alloc (.map #[] 0)).alloc (.cells #[.map (some (w1.heap.size + 1))] 87) := ⟨_, rfl⟩
  have hb4 : Below w1.heap.size w1 w4 := by
    rw [hw4]
    exact (((Below.refl _ _).alloc (Nat.le_refl _) _).alloc (by simp) _).alloc (by simp; omega) _
  have hs4 : w4.heap.size = w1.heap.size + 1 + 1 + 1 := by rw [hw4]; simp
  have hL4 : Bx w4 w1.heap.size 59 (.slice none 0 0) := by
    rw [hw4]
    exact ((Bx.new w1 59 (.slice none 0 0) _ rfl).alloc _).alloc _
  have hM4 : w4.heap[w1.heap.size + 1]? = some (.map (ents []) (once []).length) := by
    have h1 := heap_alloc_new (w1.alloc (.cells #[.slice none 0 0] 59)) (.map #[] 0)
    rw [show (w1.alloc (.cells #[.slice none 0 0] 59)).heap.size = w1.heap.size + 1 by simp] at h1
    rw [hw4, Below.heap_alloc _ _ _ (by simp)]
    exact h1
  have hT4 : Bx w4 (w1.heap.size + 1 + 1) 87 (.map (some (w1.heap.size + 1))) := by
    have h1 := Bx.new ((w1.alloc (.cells #[.slice none 0 0] 59)).alloc (.map #[] 0)) 87 (.map (some (w1.heap.size + 1))) _ rfl
    rw [show ((w1.alloc (.cells #[.slice none 0 0] 59)).alloc (.map #[] 0)).heap.size = w1.heap.size + 1 + 1 by simp] at h1
    rw [hw4]
    exact h1
  have IV : InvC lim (w1.heap.size + 1 + 1) w1.heap.size (w1.heap.size + 1) w4.heap.size [] (fun X => X = w1.heap.size + 1 ∨ X = w1.heap.size ∨ (Value.slice none 0 0).ownBlock = some X) w4 :=
    ⟨⟨_, hT4, hM4, hL4, World.ownsRow_nil w4 w4.heap.size 54 4, by omega, fun X => Iff.rfl⟩, fun y hy => by cases hy⟩
  have CI := Lib.hid (EA.out (w1.heap.size + 1 + 1) w1.heap.size (w1.heap.size + 1) w4.heap.size w4 _ (hK1.below (by omega) hb4) (by omega) IV)
  have g0 := (hb4.cell (p := ⟨W.heap.size, 0, none⟩) (by show W.heap.size < _; omega)).trans f0
  have g1 := (hb4.cell (p := ⟨W.heap.size, 1, none⟩) (by show W.heap.size < _; omega)).trans f1
  have g2 := (hb4.cell (p := ⟨W.heap.size, 2, none⟩) (by show W.heap.size < _; omega)).trans f2
  have HBB := Lib.hid (hBB.trans (hb4.mono hBB.size))
  have hWw : W.heap.size ≤ w1.heap.size := by omega
  have hz4 : W.heap.size ≤ w4.heap.size := by omega
  clear hb4 hL4 hM4 hT4 IV hs4 hK1 hBB EA f0 f1 f2
  rw [hw4] at g0 g1 g2
  go_wp2_with fail
  rw [← hw4]
  refine CI.out.mono ?_
  rintro e w5 ⟨rfl, O5, ⟨⟨s, hT5, hM5, hL5, hO5, _, _⟩, _⟩, F5⟩
  have q0 := hL5.cell
  obtain ⟨a5, c5, rfl, hr5, hc5, hm5⟩ := hO5.row
  have HR := Lib.hid hr5
  have HB5 := Lib.hid (HBB.out.trans (F5.below (H := W.heap.size) hz4 (fun X hX => by
    rcases hX with rfl | rfl | h
    · omega
    · omega
    · cases h)))
  have hm6 : c5 ≤ 9223372036854775807 := by unfold maxLen at hm5; omega
  rw [List.nil_append] at HR hc5 q0
  clear hT5 hM5 hL5 hO5 F5 hr5 hm5
  go_wp2_with fail
  go_ret2
  exact ⟨a5, c5, by rw [Z.out]; rfl, by rw [Z.out]; exact HR.out, by rw [Z.out]; exact hc5, hm6, HB5.out⟩
end Go.Proofs.Yticljddfdeocbaa
