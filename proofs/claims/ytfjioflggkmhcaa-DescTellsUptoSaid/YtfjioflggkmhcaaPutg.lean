/- package desc's Put, for every tree and path. -/
import Derived.Test.YtfjioflggkmhcaaAtg
import Derived.Test.YtfjioflggkmhcaaCapof
namespace Go.Proofs.Ytfjioflggkmhcaa
open Go.ChangeShapes Go.WideShapes Go.ChangeAt Go.RowKit
set_option linter.unusedVariables false
set_option linter.unusedSimpArgs false
/-- What lies where, while Put walks. -/
structure PutR (W w : World) (g F : Nat) (k n k' n' : Int) (v' : Value) (ks ks' : Fo) (q : List Nd) : Prop where
  r1 : w.heap[W.heap.size + 1]? = some (.cells #[.int .i64 k', .int .i64 n', v'] 24 (0, 0))
  r2 : w.heap[W.heap.size + 1 + 1]? = some (.cells #[.int .i64 0, .int .i64 0, .slice none 0 0] 24 (0, 0))
  kd : Kids w W.heap.size v' ks'
  be : Below W.heap.size W w
  own : w.heap[g]? = some (.cells #[.int .i64 k, .int .i64 n, kidv F 0 ks.len] 24 (0, 0))
  cl : Cloned w F ks q
  lF : W.heap.size + 1 + 1 < F
  lg : F < g
  sz : g < w.heap.size
theorem PutR.below {W w w' : World} {g F : Nat} {k n k' n' : Int} {v' : Value} {ks ks' : Fo} {q : List Nd} (h : PutR W w g F k n k' n' v' ks ks' q) (hb : Below w.heap.size w w') : PutR W w' g F k n k' n' v' ks ks' q := by
  have h1 := h.lF
  have h2 := h.lg
  have h3 := h.sz
  exact ⟨(hb.block _ (by omega)).trans h.r1, (hb.block _ (by omega)).trans h.r2, h.kd.carry (hb.mono (by omega)), h.be.trans (hb.mono (by omega)), (hb.block _ h3).trans h.own, h.cl.below (hb.block _ (by omega)) hb.size, h1, h2, Nat.lt_of_lt_of_le h3 hb.size⟩
/-- Where the pointer stands behind t steps. -/
structure PtR (q : List Nd) (g F : Nat) (ks : Fo) (xs : List Int) (t b o s : Nat) (fo : Fo) : Prop where
  pl : (t = 0 ∧ b = g ∧ o = 0 ∧ fo = ks ∧ s = 0) ∨ (0 < t ∧ b = F ∧ ∃ e d, o = e * 3 ∧ q[e]? = some d ∧ fo = d.ks ∧ s = pos ks.len q e ∧ (xs.drop t = [] → wk ks.len q 0 xs = e) ∧ (xs.drop t ≠ [] → wk ks.len q 0 xs = wk ks.len q s (xs.drop t)))
  ly : Ly q fo s
  at' : ∃ a b, (atN a b fo (xs.drop t)).isSome
  le : t ≤ xs.length
theorem PtR.cell {W w : World} {g F : Nat} {k n k' n' : Int} {v' : Value} {ks ks' : Fo} {q : List Nd} (h : PutR W w g F k n k' n' v' ks ks' q) {xs : List Int} {t b o s : Nat} {fo : Fo} (hp : PtR q g F ks xs t b o s fo) :
    w.cell? ⟨b, o + 2, none⟩ = some (kidv F s fo.len) ∧ (∃ x, w.cell? ⟨b, o, none⟩ = some x) ∧ (∃ x, w.cell? ⟨b, o + 1, none⟩ = some x) ∧ w.frozen? ⟨b, o, none⟩ = false ∧ w.frozen? ⟨b, o + 1, none⟩ = false ∧ w.frozen? ⟨b, o + 2, none⟩ = false ∧ b < w.heap.size := by
  rcases hp.pl with ⟨-, rfl, rfl, rfl, rfl⟩ | ⟨-, rfl, e, d, rfl, hq, rfl, rfl, -⟩
  · obtain ⟨x0, x1, x2, f0, f1, f2⟩ := row_cells3 h.own
    exact ⟨x2, ⟨_, x0⟩, ⟨_, x1⟩, f0, f1, f2, h.sz⟩
  · obtain ⟨a, b, c⟩ := h.cl.laid e d trivial hq
    exact ⟨c, ⟨_, a⟩, ⟨_, b⟩, h.cl.free _, h.cl.free _, h.cl.free _, h.cl.blk⟩
theorem PtR.step {q : List Nd} {g F : Nat} {ks : Fo} {xs : List Int} {t b o s : Nat} {fo : Fo} (h : PtR q g F ks xs t b o s fo) (ht : t < xs.length) (hz : Full ks.len q) : ∃ j : Nat, xs.getD t 0 = (j : Int) ∧ j < fo.len ∧ ∀ o', o' = s * 3 + j * 3 → PtR q g F ks xs (t + 1) F o' (pos ks.len q (s + j)) (fo.kids j) := by
  have hdr : xs.drop t = xs.getD t 0 :: xs.drop (t + 1) := by rw [List.getD_eq_getElem?_getD, List.getElem?_eq_getElem ht]; exact List.drop_eq_getElem_cons ht
  obtain ⟨a0, b0, hat⟩ := h.at'
  obtain ⟨x, hx⟩ : ∃ x, xs.getD t 0 = x := ⟨_, rfl⟩
  rw [hx] at hdr ⊢
  rw [hdr, atN] at hat
  by_cases hi : x < 0 ∨ (fo.len : Int) ≤ x
  · rw [if_pos hi] at hat; cases hat
  · rw [if_neg hi] at hat
    obtain ⟨j, rfl⟩ : ∃ j : Nat, x = j := ⟨x.toNat, by omega⟩
    have hj : j < fo.len := by omega
    refine ⟨j, rfl, hj, fun o' ho' => ?_⟩
    have hq := h.ly j hj
    refine ⟨.inr ⟨by omega, rfl, s + j, _, by omega, hq, rfl, rfl, fun hnil => ?_, fun hne => ?_⟩, (hz _ _ hq).1, ⟨_, _, hat⟩, ht⟩
    · rcases h.pl with ⟨rfl, -, -, rfl, rfl⟩ | ⟨-, -, e, d, -, -, rfl, rfl, -, h2⟩
      · have : xs = [(j : Int)] := by rw [List.drop_zero] at hdr; rw [hdr, hnil]
        rw [this]; rfl
      · rw [h2 (by rw [hdr]; simp), hdr, hnil]; rfl
    · have hw : ∀ (r : List Int), r ≠ [] → wk ks.len q s ((j : Int) :: r) = wk ks.len q (pos ks.len q (s + j)) r := fun r hr => by
        cases r with
        | nil => exact absurd rfl hr
        | cons y r => rfl
      rcases h.pl with ⟨rfl, -, -, rfl, rfl⟩ | ⟨-, -, e, d, -, -, rfl, rfl, -, h2⟩
      · have : xs = (j : Int) :: xs.drop (0 + 1) := by rw [List.drop_zero] at hdr; exact hdr
        rw [← hw _ hne, ← hdr, List.drop_zero]
      · rw [h2 (by rw [hdr]; simp), hdr, hw _ hne]
theorem set3_out (w : World) (b o : Nat) (x y z : Value) (c i : Nat) (h : c ≠ b ∨ (i ≠ o ∧ i ≠ o + 1 ∧ i ≠ o + 2)) : (((w.setCell ⟨b, o, none⟩ x).setCell ⟨b, o + 1, none⟩ y).setCell ⟨b, o + 2, none⟩ z).cell? ⟨c, i, none⟩ = w.cell? ⟨c, i, none⟩ := by
  rw [World.cell?_setCell_other _ _ _ _ (by rintro e; cases e; omega), World.cell?_setCell_other _ _ _ _ (by rintro e; cases e; omega), World.cell?_setCell_other _ _ _ _ (by rintro e; cases e; omega)]
theorem set3_in (w : World) (b o : Nat) (x y z x0 y0 z0 : Value) (h0 : w.cell? ⟨b, o, none⟩ = some x0) (h1 : w.cell? ⟨b, o + 1, none⟩ = some y0) (h2 : w.cell? ⟨b, o + 2, none⟩ = some z0) :
    (((w.setCell ⟨b, o, none⟩ x).setCell ⟨b, o + 1, none⟩ y).setCell ⟨b, o + 2, none⟩ z).cell? ⟨b, o, none⟩ = some x ∧ (((w.setCell ⟨b, o, none⟩ x).setCell ⟨b, o + 1, none⟩ y).setCell ⟨b, o + 2, none⟩ z).cell? ⟨b, o + 1, none⟩ = some y ∧ (((w.setCell ⟨b, o, none⟩ x).setCell ⟨b, o + 1, none⟩ y).setCell ⟨b, o + 2, none⟩ z).cell? ⟨b, o + 2, none⟩ = some z := by
  refine ⟨?_, ?_, ?_⟩
  · rw [World.cell?_setCell_other _ _ _ _ (by rintro e; cases e), World.cell?_setCell_other _ _ _ _ (by rintro e; cases e)]
    exact World.cell?_setCell_same w ⟨b, o, none⟩ x h0
  · rw [World.cell?_setCell_other _ _ _ _ (by rintro e; cases e)]
    exact World.cell?_setCell_same _ ⟨b, o + 1, none⟩ y ((World.cell?_setCell_other _ _ _ _ (by rintro e; cases e)).trans h1)
  · exact World.cell?_setCell_same _ ⟨b, o + 2, none⟩ z ((World.cell?_setCell_other _ _ _ _ (by rintro e; cases e)).trans ((World.cell?_setCell_other _ _ _ _ (by rintro e; cases e)).trans h2))
theorem set3_heap (w : World) (b o : Nat) (x y z : Value) (c : Nat) (h : c ≠ b) : (((w.setCell ⟨b, o, none⟩ x).setCell ⟨b, o + 1, none⟩ y).setCell ⟨b, o + 2, none⟩ z).heap[c]? = w.heap[c]? := by
  rw [heap_setCell_other _ _ _ _ h, heap_setCell_other _ _ _ _ h, heap_setCell_other _ _ _ _ h]
theorem setCell_comm (w : World) (b c o i : Nat) (x y : Value) (h : b ≠ c) : (w.setCell ⟨b, o, none⟩ x).setCell ⟨c, i, none⟩ y = (w.setCell ⟨c, i, none⟩ y).setCell ⟨b, o, none⟩ x := by
  simp only [World.setCell]
  congr 1
  refine Array.ext_getElem? fun j => ?_
  simp only [Array.getElem?_modify]
  by_cases h1 : b = j
  · subst h1
    simp [Ne.symm h]
  · by_cases h2 : c = j
    · subst h2; simp [h]
    · simp [h1, h2]
theorem set3_comm (w : World) (b c o i : Nat) (x y z x' y' z' : Value) (h : b ≠ c) : ((((((w.setCell ⟨b, o, none⟩ x).setCell ⟨b, o + 1, none⟩ y).setCell ⟨b, o + 2, none⟩ z).setCell ⟨c, i, none⟩ x').setCell ⟨c, i + 1, none⟩ y').setCell ⟨c, i + 2, none⟩ z') =
    (((((w.setCell ⟨c, i, none⟩ x').setCell ⟨c, i + 1, none⟩ y').setCell ⟨c, i + 2, none⟩ z').setCell ⟨b, o, none⟩ x).setCell ⟨b, o + 1, none⟩ y).setCell ⟨b, o + 2, none⟩ z := by
  rw [setCell_comm _ b c (o + 2) i _ _ h, setCell_comm _ b c (o + 1) i _ _ h, setCell_comm _ b c o i _ _ h,
    setCell_comm _ b c (o + 2) (i + 1) _ _ h, setCell_comm _ b c (o + 1) (i + 1) _ _ h, setCell_comm _ b c o (i + 1) _ _ h,
    setCell_comm _ b c (o + 2) (i + 2) _ _ h, setCell_comm _ b c (o + 1) (i + 2) _ _ h, setCell_comm _ b c o (i + 2) _ _ h]
/-- Another one is put in its place. -/
theorem put_final {w : World} {g F F' : Nat} {k n k' n' : Int} {ks ks' : Fo} {q q' : List Nd} (hown : w.heap[g]? = some (.cells #[.int .i64 k, .int .i64 n, kidv F 0 ks.len] 24 (0, 0))) (hcl : Cloned w F ks q) (hlg : F < g) {xs : List Int} {b o s : Nat} {fo : Fo} (hp : PtR q g F ks xs xs.length b o s fo)
    (hc : Cloned w F' ks' q') (hF : F' ≠ F) (hg : F' ≠ g) (hok : (atN k n ks xs).isSome) (hC : ks.cnt ≤ 1048576) (hC' : ks'.cnt ≤ 1048576) (w6 : World)
    (hw : ((w.setCell ⟨b, o, none⟩ (.int .i64 k')).setCell ⟨b, o + 1, none⟩ (.int .i64 n')).setCell ⟨b, o + 2, none⟩ (kidv F' 0 ks'.len) = w6) :
    ∃ kk nn a m c f, w6.heap[g]? = some (.cells #[.int .i64 kk, .int .i64 nn, .slice a m c] 24 (0, 0)) ∧ Kids w6 w6.heap.size (.slice a m c) f ∧ putN k n ks xs (k', n', ks') = (kk, nn, f) := by
  have hsz : w6.heap.size = w.heap.size := by rw [← hw]; simp
  rcases hp.pl with ⟨h0, rfl, rfl, -, -⟩ | ⟨h0, rfl, e, d, rfl, hq, -, -, he, -⟩
  · obtain rfl : xs = [] := List.length_eq_zero_iff.1 h0
    obtain ⟨a, c, hv⟩ := kidv_form F' 0 ks'.len
    refine ⟨k', n', a, ks'.len, c, ks', ?_, ?_, rfl⟩
    · rw [← hw, ← hv]; exact row_put3 hown
    · rw [← hv]
      refine Cloned.kids (q := q') (hc.below (by rw [← hw]; exact set3_heap _ _ _ _ _ _ _ hg) (by omega)) ?_ hC'
      rw [hsz]; exact hc.blk
  · cases xs with
    | nil => simp at h0
    | cons i r =>
      have he := he (List.drop_length)
      have hok2 := hok
      rw [atN] at hok2
      by_cases hi : i < 0 ∨ (ks.len : Int) ≤ i
      · rw [if_pos hi] at hok2; cases hok2
      · rw [if_neg hi] at hok2
        obtain ⟨a, c, hv⟩ := kidv_form b 0 ks.len
        have hlen := hcl.top.len
        have hql := hcl.len
        have hlt := (List.getElem?_eq_some_iff.1 hq).1
        obtain ⟨c0, c1, c2⟩ := hcl.laid e d trivial hq
        obtain ⟨s0, s1, s2⟩ := set3_in w b (e * 3) (.int .i64 k') (.int .i64 n') (kidv F' 0 ks'.len) _ _ _ c0 c1 c2
        rw [hw] at s0 s1 s2
        have hk' : Kids w6 w6.heap.size (kidv F' 0 ks'.len) ks' := by
          refine Cloned.kids (q := q') (hc.below (by rw [← hw]; exact set3_heap _ _ _ _ _ _ _ hF) (by omega)) ?_ hC'
          rw [hsz]; exact hc.blk
        refine ⟨k, n, a, ks.len, c, (ks.setk i.toNat (putN (ks.k i.toNat) (ks.n i.toNat) (ks.kids i.toNat) r (k', n', ks')).1 (putN (ks.k i.toNat) (ks.n i.toNat) (ks.kids i.toNat) r (k', n', ks')).2.1 (putN (ks.k i.toNat) (ks.n i.toNat) (ks.kids i.toNat) r (k', n', ks')).2.2), ?_, ?_, rfl⟩
        · rw [← hv, ← hw, set3_heap _ _ _ _ _ _ _ (by have := hlg; omega)]; exact hown
        · rw [← hv]
          have hL : Laid w6 b ks.len q (fun j => j ≠ e) := fun j d' hne hj => by
            obtain ⟨g0, g1, g2⟩ := hcl.laid j d' trivial hj
            rw [← hw]
            exact ⟨(set3_out _ _ _ _ _ _ _ _ (.inr (by omega))).trans g0, (set3_out _ _ _ _ _ _ _ _ (.inr (by omega))).trans g1, (set3_out _ _ _ _ _ _ _ _ (.inr (by omega))).trans g2⟩
          have := laid_put (w := w6) (lim := w6.heap.size) (F := b) (m := ks.len) (e := e) (q := q) (x := (k', n', ks')) (by rw [hsz]; exact hcl.blk) hcl.rises hcl.full hL ⟨s0, s1, _, s2, hk'⟩ r i ks 0 hcl.top (by omega) (by omega) hok2 he (fun a b _ a2 _ b2 hne ha hb => sibs_top (by omega) (by omega) hne ha hb)
          have hk := kidv_kids (by rw [setk_len]; unfold maxLen; omega) this
          rw [setk_len] at hk
          exact hk
theorem start3 (W : World) (a b c a' b' c' x y z : Value) (T : TypeId) : ∃ w0 : World, w0 = ((W.alloc (.cells #[a, b, c] T)).alloc (.cells #[a', b', c'] T)).alloc (.cells #[x, y, z] T) ∧ w0.heap[W.heap.size]? = some (.cells #[a, b, c] T (0, 0)) ∧ w0.heap[W.heap.size + 1]? = some (.cells #[a', b', c'] T (0, 0)) ∧ w0.heap[W.heap.size + 1 + 1]? = some (.cells #[x, y, z] T (0, 0)) ∧ Below W.heap.size W w0 ∧ w0.heap.size = W.heap.size + 3 := by
  obtain ⟨w1, h1, r0, r1, hb, hs⟩ := clone_start W a b c a' b' c' T
  have h2 := heap_alloc_new w1 (.cells #[x, y, z] T)
  rw [hs] at h2
  exact ⟨_, rfl, by rw [← h1, Below.heap_alloc _ _ _ (by omega)]; exact r0, by rw [← h1, Below.heap_alloc _ _ _ (by omega)]; exact r1, by rw [← h1]; exact h2, by rw [← h1]; exact hb.alloc (by omega) _, by rw [← h1]; simp; omega⟩
set_option maxRecDepth 100000 in
set_option maxHeartbeats 4000000 in
theorem desc_put (xs : List Int) (k n k' n' : Int) (ks ks' : Fo) (p p' : Option Addr) (m c m' c' lim : Nat) (a : Option Addr) (d : Nat) (W : World) (hK : Kids W lim (.slice p m c) ks) (hK' : Kids W lim (.slice p' m' c') ks') (hl : lim ≤ W.heap.size) (hr : RowI W a xs.length xs) (hd : xs.length ≤ d) (hd2 : d ≤ 9223372036854775807) (hC : ks.cnt ≤ 1048576) (hC' : ks'.cnt ≤ 1048576) :
    Calls Try.prog 26 #[.agg #[.int .i64 k, .int .i64 n, .slice p m c], .slice a xs.length d, .agg #[.int .i64 k', .int .i64 n', .slice p' m' c']] W fun e w' => AtG w'.heap.size ((atN k n ks xs).map fun _ => putN k n ks xs (k', n', ks')) e w' ∧ Below W.heap.size W w' := by
  obtain ⟨w0, hw0, r0, r1, r2, hB, hs⟩ := start3 W (.int .i64 k) (.int .i64 n) (.slice p m c) (.int .i64 k') (.int .i64 n') (.slice p' m' c') (.int .i64 0) (.int .i64 0) (.slice none 0 0) 24
  have l1 : W.heap.size + 1 + 1 < w0.heap.size := by omega
  have AT := Lib.hid (desc_at xs k n ks p m c W.heap.size a d w0 ((hK.mono hl).below (Nat.le_refl _) hB) (by omega) (hr.below hB) hd hd2 hC)
  have HK := Lib.hid ((hK.mono hl).below (Nat.le_refl _) hB)
  have HK' := Lib.hid ((hK'.mono hl).below (Nat.le_refl _) hB)
  have HRow := Lib.hid (hr.below hB)
  obtain ⟨O, hO⟩ : ∃ O, atN k n ks xs = O := ⟨_, rfl⟩
  have HO := Lib.hid hO
  obtain ⟨N, hN⟩ : ∃ N, xs.length = N := ⟨_, rfl⟩
  rw [hO] at AT ⊢
  rw [hN] at AT HRow hd ⊢
  clear hK hK' hr hO
  obtain ⟨x0, x1, x2, f0, f1, f2⟩ := row_cells3 r0
  go_enter Try.func26, Try.ntmps26
  go_wp2_with fail
  rw [← hw0]
  clear hw0
  go_wp2_with fail
  refine (AT.out).mono ?_
  rintro e w1 ⟨⟨k5, n5, p5, m5, c5, ok, ks5, rfl, -, hy5, hn5⟩, b1⟩
  have HY := Lib.hid hy5
  have HN := Lib.hid hn5
  clear hy5 hn5 x0 x1 x2 f0 f1 f2
  obtain ⟨w2, hw2⟩ : ∃ w2, w1.alloc (.cells #[.int .i64 k5, .int .i64 n5, .slice p5 m5 c5] 24) = w2 := ⟨_, rfl⟩
  have b2 : Below w0.heap.size w0 w2 := by rw [← hw2]; exact b1.alloc b1.size _
  have s0 := (b2.block _ (by omega)).trans r0
  have s1 := (b2.block _ (by omega)).trans r1
  have s2 := (b2.block _ (by omega)).trans r2
  have hB2 := hB.trans (b2.mono hB.size)
  have hz2 := b2.size
  have hz1 := b1.size
  cases ok with
  | false =>
    have HOn := Lib.hid (HN.out rfl).1
    obtain ⟨y0, y1, y2, g0, g1, g2⟩ := row_cells3 s2
    have HR := Lib.hid (row_put3 (a := .int .i64 0) (b := .int .i64 0) (c := .slice none 0 0) s2)
    have HBB := Lib.hid (below_put3 (g := W.heap.size + 1 + 1) hB2 (by omega) (.int .i64 0) (.int .i64 0) (.slice none 0 0))
    clear s0 s1 s2 r0 r1 r2 b1 b2 hB hB2
    go_wp2_with fail
    refine bodyPost_ret (results_cell_tmp' (p := 6) (a := 7) (ty := 24) rfl _ _ _ 24 #[.int .i64 0, .int .i64 0, .slice none 0 0] (0, 0) _ (.bool false) rfl rfl HR.out Try.underlying24 rfl (by kernel_rfl)) rfl ?_
    exact ⟨⟨0, 0, none, 0, 0, false, .nil, rfl, Kids.nought _ _, fun h => (by cases h), fun _ => ⟨by rw [HOn.out]; rfl, rfl, rfl, rfl⟩⟩, HBB.out⟩
  | true =>
    have hOK := HY.out rfl
    have HOK := Lib.hid (show (atN k n ks xs).isSome by rw [HO.out, hOK]; rfl)
    have HO2 := Lib.hid hOK
    have CL := Lib.hid (desc_clone k n (.slice p m c) ks W.heap.size w2 (HK.out.carry (b2.mono (by omega))) (by omega) hC)
    have HK2 := Lib.hid (HK'.out.carry (b2.mono (show W.heap.size ≤ w0.heap.size by omega)))
    have HRow2 := Lib.hid (HRow.out.below b2)
    obtain ⟨x0, x1, x2, f0, f1, f2⟩ := row_cells3 s0
    clear r0 r1 r2 b1 b2 hB hOK HY HN HRow HK HK'
    go_wp2_with fail
    with_reducible refine (CL.out).mono ?_
    rintro e w3 ⟨F, q, rfl, hq, hF, b3⟩
    obtain ⟨ka, kc, hkv⟩ := kidv_form F 0 ks.len
    rw [hkv]
    obtain ⟨w4, hw4⟩ : ∃ w4, w3.alloc (.cells #[.int .i64 k, .int .i64 n, .slice ka ks.len kc] 24) = w4 := ⟨_, rfl⟩
    have b4 : Below w2.heap.size w2 w4 := by rw [← hw4]; exact b3.alloc b3.size _
    have hP : PutR W w4 w3.heap.size F k n k' n' (.slice p' m' c') ks ks' q := by
      refine ⟨(b4.block _ (by omega)).trans s1, (b4.block _ (by omega)).trans s2, HK2.out.carry (b4.mono (by omega)), hB2.trans (b4.mono (by omega)), ?_, ?_, by omega, hq.blk, by rw [← hw4]; simp⟩
      · rw [← hw4, hkv]; exact heap_alloc_new w3 _
      · exact hq.below (by rw [← hw4]; exact Below.heap_alloc _ _ _ hq.blk) (by rw [← hw4]; simp)
    obtain ⟨g, hg⟩ : ∃ g, w3.heap.size = g := ⟨_, rfl⟩
    rw [hg] at hP
    have HS := Lib.hid (show PtR q g F ks xs 0 g 0 0 ks from ⟨.inl ⟨rfl, rfl, rfl, rfl, rfl⟩, hP.cl.top, ⟨k, n, HOK.out⟩, Nat.zero_le _⟩)
    have HRow4 := Lib.hid (HRow2.out.below b4)
    have HP := Lib.hid hP
    clear b3 b4 s0 s1 s2 hq hP x0 x1 x2 f0 f1 f2 HRow2 HK2 hB2
    go_wp2_with fail
    clear hw4
    go_loopw [11, 27] (fun y x wr => ∃ (t b o s : Nat) (fo : Fo), x = .int .i64 t ∧ y = .pointer (some ⟨b, o, none⟩) ∧ Hid (PtR q g F ks xs t b o s fo) ∧ w4 = wr) (fun _ x _ => N - (intOf x).toNat)
    case atStart => exact ⟨0, _, _, _, _, rfl, rfl, HS, rfl⟩
    case round =>
      clear HS
      obtain ⟨t, b, o, s, fo, rfl, rfl, HT, rfl⟩ := hrel
      have hle := HT.out.le
      obtain ⟨z2, ⟨z0v, z0⟩, ⟨z1v, z1⟩, f0, f1, f2, hbl⟩ := PtR.cell HP.out HT.out
      by_cases hlt : t < N
      · have dd : decide ((t : Int) < (N : Int)) = true := decide_eq_true (by omega)
        obtain ⟨j, hj, hjl, hst⟩ := HT.out.step (by omega) HP.out.cl.full
        obtain ⟨rb, ro, rfl, hrb, hrc, _⟩ := HRow4.out.cell (k := t) (by omega)
        rw [hj] at hrc
        obtain ⟨l, hl0⟩ : ∃ l, fo.len = l + 1 := ⟨fo.len - 1, by omega⟩
        rw [hl0] at z2 hjl
        replace z2 : w4.cell? ⟨b, o + 2, none⟩ = some (.slice (some ⟨F, s * 3, none⟩) (l + 1) (l + 1)) := z2
        have HT2 := Lib.hid (hst (s * 3 + j * 3) rfl)
        have j0 : (0 : Int) ≤ (j : Int) := by omega
        have j1 : (j : Int) < ((l + 1 : Nat) : Int) := by omega
        clear hst hj HT
        go_wp2_with fail
        go_roundw
        case rel => exact ⟨t + 1, _, _, _, _, by go_num, rfl, HT2, trivial⟩
        case measure => (first | (simp [intOf]; done) | (simp [intOf]; omega) | (simp only [intOf]; omega))
      · obtain rfl : t = N := by omega
        have dd : decide ((t : Int) < (t : Int)) = false := decide_eq_false (by omega)
        have CL2 := Lib.hid (desc_clone k' n' (.slice p' m' c') ks' W.heap.size w4 HP.out.kd HP.out.be.size hC')
        obtain ⟨x0, x1, x2, _, _, _⟩ := row_cells3 HP.out.r1
        go_wp2_with fail
        with_reducible refine (CL2.out).mono ?_
        rintro e w5 ⟨F', q', rfl, hq', hF', b5⟩
        obtain ⟨ja, jc, hjv⟩ := kidv_form F' 0 ks'.len
        rw [hjv]
        have hP5 := HP.out.below b5
        have hg5 := HP.out.sz
        have hlF := HP.out.lF
        have hlg := HP.out.lg
        have hbF : b = g ∨ b = F := HT.out.pl.imp (fun h => h.2.1) (fun h => h.2.1)
        have hbg : b ≠ W.heap.size + 1 + 1 ∧ W.heap.size ≤ b := by omega
        obtain ⟨kk, nn, pa, pm, pc, f6, hown6, hk6, hput⟩ := put_final hP5.own hP5.cl hlg (by rw [hN]; exact HT.out) hq' (by omega) (by omega) HOK.out hC hC' _ rfl
        rw [hjv] at hown6 hk6
        obtain ⟨kk2, nn2, pa2, pm2, pc2, f62, hown7, hk7, hput7⟩ := put_final (w := ((w5.setCell ⟨W.heap.size + 1 + 1, 0, none⟩ (.int .i64 kk)).setCell ⟨W.heap.size + 1 + 1, 0 + 1, none⟩ (.int .i64 nn)).setCell ⟨W.heap.size + 1 + 1, 0 + 2, none⟩ (.slice pa pm pc)) (by rw [set3_heap _ _ _ _ _ _ _ (by omega)]; exact hP5.own) (hP5.cl.below (set3_heap _ _ _ _ _ _ _ (by omega)) (by simp)) hlg (by rw [hN]; exact HT.out) (hq'.below (set3_heap _ _ _ _ _ _ _ (by omega)) (by simp)) (by omega) (by omega) HOK.out hC hC' _ rfl
        rw [hjv, ← set3_comm _ b (W.heap.size + 1 + 1) o 0 _ _ _ _ _ _ hbg.1] at hown7 hk7
        obtain ⟨z2, ⟨z0v, z0⟩, ⟨z1v, z1⟩, f0, f1, f2, hbl⟩ := PtR.cell hP5 HT.out
        obtain ⟨w6, hw6⟩ : ∃ w6, ((w5.setCell ⟨b, o, none⟩ (.int .i64 k')).setCell ⟨b, o + 1, none⟩ (.int .i64 n')).setCell ⟨b, o + 2, none⟩ (.slice ja ks'.len jc) = w6 := ⟨_, rfl⟩
        rw [hw6] at hown6 hk6 hown7 hk7
        have hr6 : w6.heap[W.heap.size + 1 + 1]? = some (.cells #[.int .i64 0, .int .i64 0, .slice none 0 0] 24 (0, 0)) := by rw [← hw6, set3_heap _ _ _ _ _ _ _ (by omega)]; exact hP5.r2
        have hB6 : Below W.heap.size W w6 := by rw [← hw6]; exact ((hP5.be.setCell (p := ⟨b, o, none⟩) hbg.2 _).setCell (p := ⟨b, o + 1, none⟩) hbg.2 _).setCell (p := ⟨b, o + 2, none⟩) hbg.2 _
        have hgo : (((w6.setCell ⟨W.heap.size + 1 + 1, 0, none⟩ (.int .i64 kk)).setCell ⟨W.heap.size + 1 + 1, 0 + 1, none⟩ (.int .i64 nn)).setCell ⟨W.heap.size + 1 + 1, 0 + 2, none⟩ (.slice pa pm pc)).heap[g]? = w6.heap[g]? := set3_heap _ _ _ _ _ _ _ (by omega)
        rw [hgo, hown6] at hown7
        simp only [Option.some.injEq, Obj.cells.injEq, Array.mk.injEq, List.cons.injEq, Value.int.injEq, Value.slice.injEq, true_and, and_true] at hown7
        obtain ⟨rfl, rfl, rfl, rfl, rfl⟩ := hown7
        have HR := Lib.hid (row_put3 (a := .int .i64 kk) (b := .int .i64 nn) (c := .slice pa pm pc) hr6)
        have HBB := Lib.hid (below_put3 (g := W.heap.size + 1 + 1) hB6 (by omega) (.int .i64 kk) (.int .i64 nn) (.slice pa pm pc))
        have HK7 := Lib.hid hk7
        have HPT := Lib.hid hput7
        obtain ⟨x0, x1, x2, _, _, _⟩ := row_cells3 hown6
        obtain ⟨y0, y1, y2, g0, g1, g2⟩ := row_cells3 hr6
        clear hk6 hput hgo hr6 hB6 hP5 b5 hq' hk7 hput7 hown6 HP HT HRow4
        go_wp2_with fail
        refine bodyPost_ret (results_cell_tmp' (p := 6) (a := 7) (ty := 24) rfl _ _ _ 24 #[.int .i64 kk, .int .i64 nn, .slice pa pm pc] (0, 0) _ (.bool true) rfl rfl HR.out Try.underlying24 rfl (by kernel_rfl)) rfl ?_
        exact ⟨⟨kk, nn, pa, pm, pc, true, f62, rfl, HK7.out, fun _ => by rw [HO2.out]; exact congrArg some HPT.out, fun h => by cases h⟩, HBB.out⟩
end Go.Proofs.Ytfjioflggkmhcaa
