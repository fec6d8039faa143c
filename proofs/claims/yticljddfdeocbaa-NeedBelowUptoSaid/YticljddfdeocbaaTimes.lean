/- Package need: check and Times. -/
import Derived.Test.YticljddfdeocbaaEach
namespace Go.Proofs.Yticljddfdeocbaa
open Go.ChangeShapes Go.WideShapes Go.ChangeAt Go.RowKit
set_option linter.unusedVariables false
/-- How often x is there. -/
def ntimes (x : Nam) : List Nam → Nat
  | [] => 0
  | y :: r => (if y = x then 1 else 0) + ntimes x r
theorem ntimes_append (x : Nam) : ∀ (a b : List Nam), ntimes x (a ++ b) = ntimes x a + ntimes x b
  | [], b => by simp [ntimes]
  | y :: r, b => by rw [List.cons_append, ntimes, ntimes, ntimes_append x r b]; omega
theorem ntimes_snoc (x y : Nam) (l : List Nam) : ntimes x (l ++ [y]) = ntimes x l + (if y = x then 1 else 0) := by rw [ntimes_append]; simp [ntimes]
theorem ntimes_len (x : Nam) : ∀ l : List Nam, ntimes x l ≤ l.length
  | [] => Nat.le_refl _
  | y :: r => by have := ntimes_len x r; rw [ntimes]; simp only [List.length_cons]; split <;> omega
theorem eq_names (x y : Nam) (u : World) : (binOp .eql 54 (.agg #[.int .i64 y.k, .int .i64 y.n, .int .i64 y.m, .int .i64 y.d]) (.agg #[.int .i64 x.k, .int .i64 x.n, .int .i64 x.m, .int .i64 x.d])).run Try.prog u = .ok (.bool (decide (y = x))) u := by
  have EQ := Nam.eq_iff y x
  go_simp
  by_cases a : y.k = x.k <;> by_cases b : y.n = x.n <;> by_cases c : y.m = x.m <;> by_cases d : y.d = x.d <;> simp [a, b, c, d]
/-- The four cells of a name. -/
def At4 (w : World) (b : Nat) (x : Nam) : Prop := w.cell? ⟨b, 0, none⟩ = some (.int .i64 x.k) ∧ w.cell? ⟨b, 1, none⟩ = some (.int .i64 x.n) ∧ w.cell? ⟨b, 2, none⟩ = some (.int .i64 x.m) ∧ w.cell? ⟨b, 3, none⟩ = some (.int .i64 x.d)
theorem At4.lt {w : World} {b : Nat} {x : Nam} (h : At4 w b x) : b < w.heap.size := block_lt_of_cell h.1
theorem At4.block {w w' : World} {b : Nat} {x : Nam} (h : At4 w b x) (hb : w'.heap[b]? = w.heap[b]?) : At4 w' b x :=
  ⟨(World.cell?_of_block hb).trans h.1, (World.cell?_of_block hb).trans h.2.1, (World.cell?_of_block hb).trans h.2.2.1, (World.cell?_of_block hb).trans h.2.2.2⟩
/-- What Times keeps: how often the name was told. -/
def InvT (lim T C : Nat) (x : Nam) (L : List Nam) (O : Nat → Prop) (w : World) : Prop := At4 w T x ∧ Bx w C 3 (.int .i64 (ntimes x L)) ∧ T ≠ C ∧ lim ≤ C ∧ ∀ X, O X ↔ X = C
set_option maxRecDepth 100000 in
theorem times_step (lim T C M : Nat) (hM : M ≤ 4194304) (x : Nam) (L : List Nam) (O : Nat → Prop) (y : Nam) (w : World) (hL : L.length < M) (hI : InvT lim T C x L O w) :
    Calls Try.prog 83 #[.agg #[.int .i64 y.k, .int .i64 y.n, .int .i64 y.m, .int .i64 y.d], .pointer (some ⟨T, 0, none⟩), .pointer (some ⟨C, 0, none⟩)] w (Tells (InvT lim T C x) O (L ++ [y]) w) := by
  obtain ⟨h4, hC, hne, hlim, hO⟩ := hI
  have E := Lib.hid (ntimes_snoc x y L)
  have hlen := ntimes_len x L
  obtain ⟨w0, hw0, c0, c1, c2, c3, hB, hsz⟩ := box4n w y.k y.n y.m y.d 54
  have hT := h4.lt
  have hCl := hC.lt
  have g4 := h4.block (hB.block T hT)
  obtain ⟨t0, t1, t2, t3⟩ := g4
  have hC0 := hC.below hB
  have q0 := hC0.cell
  have qf := frozen_of_row w0 C 0 _ _ hC0
  have bu := But.set w C 0 (.int .i64 ((ntimes x L : Nat) + 1))
  have hb2 := (Below.refl (w.setCell ⟨C, 0, none⟩ (.int .i64 ((ntimes x L : Nat) + 1))).heap.size (w.setCell ⟨C, 0, none⟩ (.int .i64 ((ntimes x L : Nat) + 1)))).alloc (Nat.le_refl _) (.cells #[.int .i64 y.k, .int .i64 y.n, .int .i64 y.m, .int .i64 y.d] 54)
  have FY := Lib.hid (fun (h : y = x) => (show Tells (InvT lim T C x) O (L ++ [y]) w (.returned (.tuple #[])) ((w.setCell ⟨C, 0, none⟩ (.int .i64 ((ntimes x L : Nat) + 1))).alloc (.cells #[.int .i64 y.k, .int .i64 y.n, .int .i64 y.m, .int .i64 y.d] 54)) from
    ⟨rfl, O, ⟨(h4.block (bu.o T (by omega) hne)).block (hb2.block T (by simp; omega)), by rw [E.out, if_pos h]; exact (hC.set _).below hb2, hne, hlim, hO⟩, (show Fr O O w (w.setCell ⟨C, 0, none⟩ (.int .i64 ((ntimes x L : Nat) + 1))) from ⟨(bu.b 0 (by omega) (by omega)).os, (bu.b 0 (by omega) (by omega)).tape, (bu.b 0 (by omega) (by omega)).output, bu.z, fun X hX hn => bu.o X hX (fun e => hn ((hO X).2 e)), fun X h => .inl h⟩).trans (Fr.of_below hb2)⟩))
  have FN := Lib.hid (fun (h : ¬ y = x) => (show Tells (InvT lim T C x) O (L ++ [y]) w (.returned (.tuple #[])) w0 from
    ⟨rfl, O, ⟨h4.block (hB.block T hT), by rw [E.out, if_neg h]; exact hC0, hne, hlim, hO⟩, Fr.of_below hB⟩))
  have W1 : IntKind.i64.wrap ((ntimes x L : Nat) + 1) = (ntimes x L : Nat) + 1 := IntWalk.i64_in _ (by omega)
  have QE := Lib.hid (eq_names x y)
  clear h4 hC hC0 bu hO E hb2
  generalize ntimes x L = q at *
  generalize Tells (InvT lim T C x) O (L ++ [y]) w = PP at *
  by_cases hyx : y = x
  · have F := Lib.hid (FY.out hyx)
    have qe := QE.out
    rw [decide_eq_true hyx] at qe
    subst hw0
    clear FY FN hyx
    go_enter Try.func83, Try.ntmps83
    go_wp2_with fail
    go_end0
    exact F.out
  · have F := Lib.hid (FN.out hyx)
    have qe := QE.out
    rw [decide_eq_false hyx] at qe
    subst hw0
    clear FY FN hyx
    go_enter Try.func83, Try.ntmps83
    go_wp2_with fail
    go_end0
    exact F.out
theorem InvT.hlt {lim T C : Nat} {x : Nam} {L : List Nam} {O : Nat → Prop} {w : World} (h : InvT lim T C x L O w) : ∀ X, O X → lim ≤ X ∧ X < w.heap.size := fun X hX => by
  have e := (h.2.2.2.2 X).1 hX
  subst e
  exact ⟨h.2.2.2.1, h.2.1.lt⟩
theorem InvT.below {lim T C : Nat} {x : Nam} {L : List Nam} {O : Nat → Prop} {w w' : World} (h : InvT lim T C x L O w) (hb : Below w.heap.size w w') : InvT lim T C x L O w' :=
  ⟨h.1.block (hb.block T h.1.lt), h.2.1.below hb, h.2.2⟩
theorem ok_seven {n : Int} {m : Nat} {a b : Int} (h : nodeB 7 n m a b = true) : 0 < m := by
  have e : nodeB 7 n m a b = (decide (m = 1) && decide (2 ≤ n) && hasb n && hasp a && decide (2 * n - 1 ≤ a)) := rfl
  rw [e] at h
  simp only [Bool.and_eq_true, decide_eq_true_eq] at h
  omega
theorem sane_of : ∀ f : Fo, f.pre.all Nd.ok = true → f.sane
  | .nil, _ => trivial
  | .cons k n ks r, h => by
    rw [Fo.pre, List.all_cons, List.all_append] at h
    simp only [Bool.and_eq_true] at h
    refine ⟨fun hk => ?_, sane_of ks h.2.1, sane_of r h.2.2⟩
    subst hk
    exact ok_seven h.1
theorem chk_zero {k n : Int} {ks : Fo} (h : chkd k n ks = 0) : (Nd.mk k n ks).ok = true ∧ ks.pre.all Nd.ok = true ∧ ks.cnt ≤ 59 ∧ ks.depth ≤ 11 := by
  unfold chkd at h
  by_cases hb : 60 < ks.cnt + 1 ∨ 12 < ks.depth + 1
  · rw [if_pos hb] at h; omega
  · rw [if_neg hb] at h
    by_cases ha : (Nd.mk k n ks :: ks.pre).all Nd.ok = true
    · rw [List.all_cons, Bool.and_eq_true] at ha
      exact ⟨ha.1, ha.2, by omega, by omega⟩
    · rw [if_neg ha] at h; omega
theorem chk_sane {k n : Int} {ks : Fo} (h : chkd k n ks = 0) : (k = 7 → 0 < ks.len) ∧ ks.sane ∧ ks.cnt ≤ 59 := by
  obtain ⟨h1, h2, h3, _⟩ := chk_zero h
  refine ⟨fun hk => ?_, sane_of ks h2, h3⟩
  subst hk
  exact ok_seven h1
/-- What check tells, of a direction, of what Check tells. -/
def ckd (dir c : Int) : Int := if dir = 0 ∨ dir = 1 then c else 2
theorem ckd_dir {dir c : Int} (h : ckd dir c = 0) : (dir = 0 ∨ dir = 1) ∧ c = 0 := by
  unfold ckd at h
  by_cases hd : dir = 0 ∨ dir = 1
  · rw [if_pos hd] at h; exact ⟨hd, h⟩
  · rw [if_neg hd] at h; omega
set_option maxRecDepth 100000 in
theorem need_check (ks : Fo) (v : Value) (k n dir : Int) (lim : Nat) (W : World) (hN : ks.cnt ≤ 1048576) (hK : Kids W lim v ks) (hl : lim ≤ W.heap.size) (wn : -9223372036854775808 ≤ n ∧ n ≤ 9223372036854775807) (wf : ks.wf) :
    Calls Try.prog 80 #[.agg #[.int .i64 k, .int .i64 n, v], .int .i64 dir] W fun e w' => e = .returned (.int .i64 (ckd dir (chkd k n ks))) ∧ Below W.heap.size W w' := by
  have CK := Lib.hid (fun W h1 h2 => valid_check ks v k n lim W hN h1 h2 wn wf)
  obtain ⟨p, m, c, rfl, hc1, hc2, HM⟩ := hK.shape
  obtain ⟨w0, hw0, c0, c1, c2, hB, hsz⟩ := box3 W k n (.slice p m c) 24
  have hK0 := hK.below hl hB
  generalize chkd k n ks = ck at *
  by_cases hd : dir = 0 ∨ dir = 1
  · have E := Lib.hid (show ckd dir ck = ck from if_pos hd)
    rcases hd with rfl | rfl
    all_goals
      go_enter Try.func80, Try.ntmps80
      go_wp2_with fail
      rw [← hw0]
      clear hw0
      refine (CK.out _ hK0 (by omega)).mono ?_
      rintro e w1 ⟨rfl, b1⟩
      go_wp2_with fail
      go_ret
      exact ⟨ret_i64 E.out.symm, hB.trans (b1.mono hB.size)⟩
  · have E := Lib.hid (show ckd dir ck = 2 from if_neg hd)
    have d0 : (dir != 0) = true := by simp; omega
    have d1 : (dir != 1) = true := by simp; omega
    go_enter Try.func80, Try.ntmps80
    go_wp2_with fail
    rw [← hw0]
    go_ret
    exact ⟨ret_i64 E.out.symm, hB⟩
set_option maxRecDepth 100000 in
set_option maxHeartbeats 2000000 in
theorem need_times (ks : Fo) (v : Value) (k n dir : Int) (x : Nam) (lim : Nat) (W : World) (hN : ks.cnt ≤ 1048576) (hK : Kids W lim v ks) (hl : lim ≤ W.heap.size) (wn : -9223372036854775808 ≤ n ∧ n ≤ 9223372036854775807) (wf : ks.wf) :
    Calls Try.prog 49 #[.agg #[.int .i64 k, .int .i64 n, v], .int .i64 dir, .agg #[.int .i64 x.k, .int .i64 x.n, .int .i64 x.m, .int .i64 x.d]] W fun e w' => e = .returned (.int .i64 (if ckd dir (chkd k n ks) = 0 then ((ntimes x (namesN k n ks dir) : Nat) : Int) else 0)) ∧ Below W.heap.size W w' := by
  have CK := Lib.hid (fun W h1 h2 => need_check ks v k n dir lim W hN h1 h2 wn wf)
  have SN := Lib.hid (fun h => chk_sane (k := k) (n := n) (ks := ks) h)
  obtain ⟨p, m, c, rfl, hc1, hc2, HM⟩ := hK.shape
  obtain ⟨w0, hw0, c0, c1, c2, hB0, hsz0⟩ := box3 W k n (.slice p m c) 24
  obtain ⟨w1, hw1, a0, a1, a2, a3, hB1, hsz1⟩ := box4n w0 x.k x.n x.m x.d 54
  have hK1 := (hK.below hl hB0).below (by omega) hB1
  have hB := hB0.trans (hB1.mono hB0.size)
  have xa : W.heap.size < w0.heap.size := by omega
  have xb : W.heap.size < w1.heap.size := by omega
  have c0 := (hB1.cell (p := ⟨W.heap.size, 0, none⟩) xa).trans c0
  have c1 := (hB1.cell (p := ⟨W.heap.size, 1, none⟩) xa).trans c1
  have c2 := (hB1.cell (p := ⟨W.heap.size, 2, none⟩) xa).trans c2
  rw [hw0] at hw1
  rw [hsz0] at a0 a1 a2 a3
  have hA4 : At4 w1 (W.heap.size + 1) x := ⟨a0, a1, a2, a3⟩
  by_cases hck : ckd dir (chkd k n ks) = 0
  case neg =>
    have Z := Lib.hid (show (if ckd dir (chkd k n ks) = 0 then ((ntimes x (namesN k n ks dir) : Nat) : Int) else 0) = 0 from if_neg hck)
    generalize (if ckd dir (chkd k n ks) = 0 then ((ntimes x (namesN k n ks dir) : Nat) : Int) else 0) = z at *
    generalize ckd dir (chkd k n ks) = ck at *
    have d0 : (ck != 0) = true := by simp [hck]
    go_enter Try.func49, Try.ntmps49
    go_wp2_with fail
    rw [← hw1]
    clear hw1
    refine (CK.out _ hK1 (by omega)).mono ?_
    rintro e w2 ⟨rfl, b2⟩
    go_wp2_with fail
    go_ret
    exact ⟨ret_i64 Z.out.symm, hB.trans (b2.mono hB.size)⟩
  have Z := Lib.hid (show (if ckd dir (chkd k n ks) = 0 then ((ntimes x (namesN k n ks dir) : Nat) : Int) else 0) = ((ntimes x (namesN k n ks dir) : Nat) : Int) from if_pos hck)
  obtain ⟨s1, s2, s3⟩ := SN.out (ckd_dir hck).2
  rw [hck] at CK
  generalize (if ckd dir (chkd k n ks) = 0 then ((ntimes x (namesN k n ks dir) : Nat) : Int) else 0) = z at *
  clear hck SN hw0 hB0 hB1
  have hT : W.heap.size + 1 < w1.heap.size := hA4.lt
  have EA := Lib.hid (fun (Tb C : Nat) (W' : World) (hK' : Kids W' lim (.slice p m c) ks) (hl' : lim ≤ W'.heap.size) (hI : InvT lim Tb C x [] (fun X => X = C) W') =>
    each_times ⟨Tb, 0, none⟩ ⟨C, 0, none⟩ lim 4194304 (InvT lim Tb C x) (fun L O w h => InvT.hlt h) (fun L O w w' h hb => InvT.below h hb) (fun _ => True) (fun L O y w _ hL h => times_step lim Tb C 4194304 (by omega) x L O y w hL h) 1048576 ks (.slice p m c) k n dir [] (fun X => X = C) W' hN (by omega) hK' hl' s1 s2 (by simp; omega) (fun _ _ => trivial) hI)
  clear s1 s2
  go_enter Try.func49, Try.ntmps49
  go_wp2_with fail
  rw [← hw1]
  clear hw1
  refine (CK.out _ hK1 (by omega)).mono ?_
  rintro e w2 ⟨rfl, b2⟩
  have hK2 := hK1.below (by omega) b2
  have hs2 := b2.size
  have f0 := (b2.cell (p := ⟨W.heap.size, 0, none⟩) xb).trans c0
  have f1 := (b2.cell (p := ⟨W.heap.size, 1, none⟩) xb).trans c1
  have f2 := (b2.cell (p := ⟨W.heap.size, 2, none⟩) xb).trans c2
  have hA2 := hA4.block (b2.block _ hT)
  have hb3 := (Below.refl w2.heap.size w2).alloc (Nat.le_refl _) (.cells #[.int .i64 0] 3)
  have hC3 := Bx.new w2 3 (.int .i64 0) _ rfl
  obtain ⟨w3, hw3⟩ : ∃ w3, w3 = w2.alloc (.cells #[.int .i64 0] 3) := ⟨_, rfl⟩
  rw [← hw3] at hb3 hC3
  have g0 := (hb3.cell (p := ⟨W.heap.size, 0, none⟩) (by show W.heap.size < _; omega)).trans f0
  have g1 := (hb3.cell (p := ⟨W.heap.size, 1, none⟩) (by show W.heap.size < _; omega)).trans f1
  have g2 := (hb3.cell (p := ⟨W.heap.size, 2, none⟩) (by show W.heap.size < _; omega)).trans f2
  have hA3 := hA2.block (hb3.block _ (by omega))
  have CI := Lib.hid (EA.out (W.heap.size + 1) w2.heap.size w3 (hK2.below (by omega) hb3) (by have := hb3.size; omega) ⟨hA3, hC3, by omega, by omega, fun X => Iff.rfl⟩)
  have hBB := hB.trans ((b2.trans (hb3.mono hs2)).mono hB.size)
  have hs3 : w2.heap.size < w3.heap.size := hC3.lt
  clear hA2 hA3 hA4 hC3 hK2 f0 f1 f2 c0 c1 c2 a0 a1 a2 a3 EA CK hK1 hb3
  generalize W.heap.size + 1 = Y at *
  rw [hw3] at g0 g1 g2
  go_wp2_with fail
  rw [← hw3]
  refine CI.out.mono ?_
  rintro e w4 ⟨rfl, O4, hI4, F4⟩
  obtain ⟨_, hC4, _, _, _⟩ := hI4
  have q0 := hC4.cell
  have hfin := hBB.trans (F4.below (H := W.heap.size) (by have := hBB.size; omega) (fun X hX => by subst hX; omega))
  clear hC4 F4
  go_wp2_with fail
  go_ret
  exact ⟨ret_i64 (by rw [Z.out]), hfin⟩
end Go.Proofs.Yticljddfdeocbaa
