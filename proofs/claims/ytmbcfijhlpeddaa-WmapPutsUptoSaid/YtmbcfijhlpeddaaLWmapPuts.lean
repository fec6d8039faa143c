/- WmapPuts: what becomes known of any entries, one by one, and what is known of any key. -/
import Derived.Test.YtmbcfijhlpeddaaP8
import Derived.Test.YtmbcfijhlpeddaaP9
import Derived.Test.YtmbcfijhlpeddaaP10
import Derived.Test.YtmbcfijhlpeddaaP11
namespace Go.Proofs.Ytmbcfijhlpeddaa
open Go.ChangeShapes Go.WideShapes Go.ChangeAt Go.RowKit
set_option linter.unusedVariables false
set_option linter.unusedSimpArgs false
/-- The row beside the map. -/
theorem OwnE.mkeep {w w' : World} {lim B M : Nat} {g : Option Nat} {v : Value} {l : List En} (h : OwnE w lim B v l) (hk : MKeep w w' M g) (hM : M < B) (hlM : lim ≤ M) (hgM : ∀ G, g = some G → M < G) (hl : lim ≤ w.heap.size) (hg : ∀ G, g = some G → v.ownBlock ≠ some G) : OwnE w' lim B v l := by
  obtain ⟨xs, ⟨h0, h1⟩, h2⟩ := h
  refine ⟨xs, ⟨h0, ?_⟩, h2.carry (hk.b lim hlM (fun G e => by have := hgM G e; omega) hl)⟩
  rcases h1 with h1 | ⟨b, cap, cur, rfl, hb, hh, hr⟩
  · exact .inl h1
  · have hbl : b < w.heap.size := Nat.lt_of_not_le fun hn => by rw [Array.getElem?_eq_none hn] at hh; cases hh
    exact .inr ⟨b, cap, cur, rfl, hb, (hk.o b hbl (by omega) (fun e => hg b e rfl)).trans hh, hr⟩
theorem hasK_E {vs : List P6} {a b : Int} : hasE (vs.map P6.x) a b = true ↔ hasK vs a b := by
  unfold hasE hasK
  rw [List.any_eq_true]
  constructor
  · rintro ⟨e, he, h⟩
    obtain ⟨p, hp, rfl⟩ := List.mem_map.1 he
    exact ⟨p, hp, of_decide_eq_true h⟩
  · rintro ⟨p, hp, h⟩
    exact ⟨p.x, List.mem_map.2 ⟨p, hp, rfl⟩, decide_eq_true h⟩
/-- What both tell of a key is the same. -/
theorem look_same {vs : List P6} (hK : Keys vs) {a b k n k' n' : Int} {ks ks' : Fo} {ok ok' : Bool} (h : LookR vs a b k n ks ok) (h' : LookE (vs.map P6.x) a b k' n' ks' ok') : ok = ok' ∧ k = k' ∧ n = n' ∧ ks = ks' := by
  rcases h with ⟨rfl, p, hp, h1, h2, rfl, rfl, rfl⟩ | ⟨rfl, hn, rfl, rfl, rfl⟩
  · rcases h' with ⟨rfl, e, he, g1, g2, rfl, rfl, rfl⟩ | ⟨rfl, hn, _⟩
    · obtain ⟨q, hq, rfl⟩ := List.mem_map.1 he
      obtain ⟨i, hi⟩ := List.mem_iff_getElem?.1 hp
      obtain ⟨j, hj⟩ := List.mem_iff_getElem?.1 hq
      have := hK i j p q hi hj (by simp only [P6.x] at g1; omega) (by simp only [P6.x] at g2; omega)
      subst this
      rw [hi] at hj; cases hj
      exact ⟨rfl, rfl, rfl, rfl⟩
    · exact absurd ⟨h1, h2⟩ (hn p.x (List.mem_map.2 ⟨p, hp, rfl⟩))
  · rcases h' with ⟨rfl, e, he, g1, g2, _⟩ | ⟨rfl, _, rfl, rfl, rfl⟩
    · obtain ⟨q, hq, rfl⟩ := List.mem_map.1 he
      exact absurd ⟨q, hq, g1, g2⟩ hn
    · exact ⟨rfl, rfl, rfl, rfl⟩
theorem put_len {vs vs' : List P6} {a b k n : Int} {ks : Fo} {fresh : Bool} (h : PutR vs vs' a b k n ks fresh) : vs'.length ≤ vs.length + 1 := by
  rcases h with ⟨_, rfl, _⟩ | ⟨_, _, v', rfl⟩
  · omega
  · rw [List.length_append, List.length_singleton]; exact Nat.le_refl _
theorem put_same {w' : World} {lim B B' : Nat} {v v' : Value} {vs vs' : List P6} {a b k n : Int} {ks : Fo} {fresh z : Bool} (hP : PutR vs vs' a b k n ks fresh) (h : (hasE (vs.map P6.x) a b = true ∧ z = false ∧ v' = v) ∨ (hasE (vs.map P6.x) a b = false ∧ z = true ∧ OwnE w' lim B' v' (vs.map P6.x ++ [⟨a, b, k, n, ks⟩]))) (hO : OwnE w' lim B v (vs.map P6.x)) (hB : B ≤ B') :
    fresh = z ∧ OwnE w' lim B v' (vs'.map P6.x) ∧ (v' = v ∨ ∀ i, v'.ownBlock = some i → B' ≤ i) := by
  rcases hP with ⟨rfl, rfl, hk⟩ | ⟨rfl, hk, u, rfl⟩
  · rcases h with ⟨_, rfl, rfl⟩ | ⟨h, _⟩
    · exact ⟨rfl, hO, .inl rfl⟩
    · rw [hasK_E.2 hk] at h; cases h
  · rcases h with ⟨h, _⟩ | ⟨_, rfl, h⟩
    · exact absurd (hasK_E.1 h) hk
    · refine ⟨rfl, ?_, .inr h.ownLe⟩
      rw [List.map_append]
      exact h.mono hB
theorem MapS.gt {w : World} {M L G : Nat} {vs : List P6} (h : MapS w M L (some G) vs) : G < w.heap.size := by
  rcases h.e with ⟨e, _⟩ | ⟨G', e, _, hG⟩
  · cases e
  · cases e
    exact Nat.lt_of_not_le fun hn => by rw [Array.getElem?_eq_none hn] at hG; cases hG
namespace wmapPuts
attribute [local go_sem ↓] Go.wp_at_zero Go.wp_at_succ
set_option maxRecDepth 100000 in
set_option maxHeartbeats 16000000 in
theorem walk (W : World) (v0 : Value) (l0 : List En) (hR0 : RowN W W.heap.size v0 l0) (hE0 : ∀ e ∈ l0, e.inr ∧ e.ks.cnt + 1 ≤ 1048576) (a1_0 : Int) (w1_0 : -9223372036854775808 ≤ a1_0 ∧ a1_0 ≤ 9223372036854775807) (a1_1 : Int) (w1_1 : -9223372036854775808 ≤ a1_1 ∧ a1_1 ≤ 9223372036854775807) :
    Calls Try.prog 3 #[v0, .agg #[.int .i64 a1_0, .int .i64 a1_1]] W fun e W' => e = .returned (.bool true) ∧ Below W.heap.size W W' := by
  have LV := Lib.hid (fun w => live26 w)
  obtain ⟨p, c, rfl, hlc, hcm⟩ := hR0.form
  obtain ⟨n, hnl⟩ : ∃ n, l0.length = n := ⟨_, rfl⟩
  have HNL := Lib.hid hnl
  obtain ⟨w0, hw0, x0, x1, hB0, hs0⟩ := box2e W a1_0 a1_1 24
  have MU := Lib.hid (r24_much _ l0 W.heap.size w0 (hR0.below (Nat.le_refl _) hB0) hB0.size (fun e he => (hE0 e he).2))
  have HB0 := Lib.hid hB0
  have HW0 := Lib.hid hw0.symm
  have HS0 := Lib.hid hs0
  have lX : W.heap.size < w0.heap.size := by omega
  have KX := Lib.hid (fun w' (hb : Below w0.heap.size w0 w') => (show w'.cell? ⟨W.heap.size, 0, none⟩ = some (.int .i64 a1_0) ∧ w'.cell? ⟨W.heap.size, 1, none⟩ = some (.int .i64 a1_1) from
    ⟨(hb.cell (p := ⟨W.heap.size, 0, none⟩) lX).trans x0, (hb.cell (p := ⟨W.heap.size, 1, none⟩) lX).trans x1⟩))
  obtain ⟨X, hX⟩ : ∃ X, W.heap.size = X := ⟨_, rfl⟩
  rw [hX] at KX
  have HX := Lib.hid hX
  have NW := Lib.hid (fun u => wmap_new u)
  have GE := Lib.hid (fun M L g vs u (hS : MapS u M L g vs) => w_Get M g vs a1_0 a1_1 u hS w1_0 w1_1)
  rw [hnl] at hlc hR0 MU ⊢
  have HIN := Lib.hid hR0
  have HE := Lib.hid hE0
  have hcc : c ≤ 9223372036854775807 := by unfold maxLen at hcm; omega
  clear hR0 hE0 w1_0 w1_1 hnl hcm hw0 hB0 hs0 lX x0 x1
  go_enter Try.func3, Try.ntmps3
  go_upto_region 1 with fail
  rw [HW0.out]
  clear hX
  go_wp2_with fail
  refine MU.out.mono ?_
  rintro e w1 ⟨⟨z, rfl, hz⟩, hb1⟩
  cases z
  case true =>
    have H1 := Lib.hid (HB0.out.trans (hb1.mono HB0.out.size))
    clear hz MU hb1
    go_wp2_with fail
    refine (LV.out _).mono ?_
    rintro e w2 ⟨rfl, hb2⟩
    have H2 := Lib.hid (H1.out.trans (hb2.mono H1.out.size))
    clear hb2
    go_wp2_with fail
    go_ret
    exact ⟨rfl, H2.out⟩
  case false =>
    have hz := hz rfl
    have HZ := Lib.hid hz.2
    have hn30 := hz.1
    have H1 := Lib.hid (HB0.out.trans (hb1.mono HB0.out.size))
    clear hz MU
    go_wp2_with fail
    refine (NW.out _).mono ?_
    rintro e w2 ⟨rfl, hS2, hb2⟩
    have H2 := Lib.hid (H1.out.trans (hb2.mono H1.out.size))
    have HML := Lib.hid (show w0.heap.size ≤ w1.heap.size from hb1.size)
    obtain ⟨M, hM⟩ : ∃ M, w1.heap.size = M := ⟨_, rfl⟩
    rw [hM] at hS2 HML ⊢
    have HS2 := Lib.hid hS2
    have HW2 := Lib.hid (show w0.heap.size ≤ w2.heap.size ∧ Below w0.heap.size w0 w2 from ⟨Nat.le_trans hb1.size hb2.size, hb1.trans (hb2.mono hb1.size)⟩)
    clear hb1 hb2 hS2 hM H1
    go_wp2_with fail
    go_loopw [6, 7] (fun x j wr => ∃ (i : Nat) (sv : Value) (g : Option Nat) (vs : List P6), j = .int .i64 i ∧ sv = x ∧ i ≤ n ∧ vs.length ≤ i ∧ Hid (MapS wr M (M + 1) g vs) ∧ Hid (OwnE wr W.heap.size (M + 1) sv (vs.map P6.x)) ∧ Hid (∀ G, g = some G → sv.ownBlock ≠ some G) ∧ Hid (Below W.heap.size W wr) ∧ Hid (w0.heap.size ≤ wr.heap.size ∧ Below w0.heap.size w0 wr)) (fun _ j _ => n - (intOf j).toNat)
    case atStart => exact ⟨0, _, none, [], rfl, rfl, by omega, Nat.le_refl _, HS2, Lib.hid (OwnE.nil _ _ _), Lib.hid (fun G e => by cases e), H2, HW2⟩
    case round =>
      obtain ⟨i, sv, g, vs, rfl, rfl, hi, hvi, HS, HO, HG, HB, HBZ⟩ := hrel
      obtain ⟨wu, rfl⟩ : ∃ wu, wu = wr := ⟨_, rfl⟩
      by_cases hlt : i < n
      case neg =>
        obtain rfl : i = n := by omega
        have d1 : decide ((i : Int) < (i : Int)) = false := decide_eq_false (by omega)
        obtain ⟨x0, x1⟩ := KX.out wu HBZ.out.2
        go_wp2_with fail
        refine (GE.out M (M + 1) g vs wu HS.out).mono ?_
        rintro e w3 ⟨k3, n3, ja, jm, jc, ks3, ok3, rfl, hK3, hL3, hb3⟩
        obtain ⟨wd, hwd⟩ : ∃ wd, w3.alloc (.cells #[.int .i64 k3, .int .i64 n3, .slice ja jm jc] 34) = wd := ⟨_, rfl⟩
        have hnd := heap_alloc_new w3 (.cells #[.int .i64 k3, .int .i64 n3, .slice ja jm jc] 34)
        have hbd : Below w3.heap.size w3 wd := by rw [← hwd]; exact (Below.refl _ _).alloc (Nat.le_refl _) _
        have hsd : wd.heap.size = w3.heap.size + 1 := by rw [← hwd]; simp
        rw [hwd] at hnd
        have HWD := Lib.hid hwd
        have hB3 := HB.out.trans (hb3.mono HB.out.size)
        have HSd := Lib.hid ((HS.out.below hb3).below hbd)
        have HOd := Lib.hid ((HO.out.below hb3 HB.out.size).below hbd hB3.size)
        have HBd := Lib.hid (hB3.trans (hbd.mono hB3.size))
        have hB3Z := HBZ.out.2.trans (hb3.mono HBZ.out.1)
        have HBdZ := Lib.hid (hB3Z.trans (hbd.mono hB3Z.size))
        have HKd := Lib.hid ((hK3.below (Nat.le_refl _) hbd).mono hbd.size)
        have RG := r26_get sv (vs.map P6.x) a1_0 a1_1 wd.heap.size wd (HOd.out.rowN HBd.out.size) (Nat.le_refl _) (by rw [List.length_map]; omega)
        have HL3 := Lib.hid hL3
        obtain ⟨D, hD⟩ : ∃ D, w3.heap.size = D := ⟨_, rfl⟩
        rw [hD] at hnd hsd
        have XD := Lib.hid (fun u (hu : Below wd.heap.size wd u) => row_cells3 ((hu.block D (by omega)).trans hnd))
        clear x0 x1 hK3 hL3 hb3 hwd hnd hbd hsd hB3 hB3Z
        go_upto_region 20 with fail
        rw [HWD.out]
        clear HWD hD
        obtain ⟨x0, x1⟩ := KX.out wd HBdZ.out
        go_wp2_with fail
        refine RG.mono ?_
        rintro e w4 ⟨k4, n4, v4, ks4, ok4, rfl, hK4, hL4, hb4⟩
        obtain ⟨rfl, rfl, rfl, rfl⟩ := look_same HSd.out.d HL3.out hL4
        obtain ⟨qa, qm, qc, rfl, -, -, -⟩ := hK4.shape
        obtain ⟨wx, hwx⟩ : ∃ wx, w4.alloc (.cells #[.int .i64 k3, .int .i64 n3, .slice qa qm qc] 34) = wx := ⟨_, rfl⟩
        have hnx := heap_alloc_new w4 (.cells #[.int .i64 k3, .int .i64 n3, .slice qa qm qc] 34)
        have hbx : Below w4.heap.size w4 wx := by rw [← hwx]; exact (Below.refl _ _).alloc (Nat.le_refl _) _
        rw [hwx] at hnx
        have HWX := Lib.hid hwx
        have hbb := hb4.trans (hbx.mono hb4.size)
        have HSx := Lib.hid (HSd.out.below hbb)
        have HOx := Lib.hid (HOd.out.below hbb HBd.out.size)
        have HBx := Lib.hid (HBd.out.trans (hbb.mono HBd.out.size))
        have SM := r13_same ks3 ks3 (.slice ja jm jc) (.slice qa qm qc) k3 n3 k3 n3 wx.heap.size wx ((HKd.out.below (Nat.le_refl _) hbb).mono hbb.size) ((hK4.mono hb4.size |>.below (Nat.le_refl _) hbx).mono hbx.size) (Nat.le_refl _)
        rw [cmpN_self, decide_eq_true rfl] at SM
        obtain ⟨z0, z1, z2, -⟩ := XD.out wx hbb
        obtain ⟨E, hE⟩ : ∃ E, w4.heap.size = E := ⟨_, rfl⟩
        rw [hE] at hnx
        obtain ⟨q0, q1, q2, -⟩ := row_cells3 hnx
        have db : (ok3 == ok3) = true := by simp
        clear hK4 hL4 hb4 RG x0 x1 hwx hnx hbx hbb
        go_upto_region 21 with fail
        rw [HWX.out]
        clear HWX hE
        go_wp2_with fail
        refine SM.mono ?_
        rintro e w5 ⟨rfl, hb5⟩
        have HS5 := HSx.out.below hb5
        have HO5 := Lib.hid (HOx.out.below hb5 HBx.out.size)
        have HB5 := Lib.hid (HBx.out.trans (hb5.mono HBx.out.size))
        have EN := w_Entries M g vs w5 HS5 (by omega)
        clear hb5 SM z0 z1 z2 q0 q1 q2 HS5
        go_wp2_with fail
        refine EN.mono ?_
        rintro e w6 ⟨v6, rfl, hr6, hb6⟩
        have hO6 := HO5.out.below hb6 HB5.out.size
        have HB6 := Lib.hid (HB5.out.trans (hb6.mono HB5.out.size))
        have SO := r24_sort sv (vs.map P6.x) w6.heap.size w6 (hO6.rowN HB6.out.size) (Nat.le_refl _) (by rw [List.length_map]; omega)
        have HR6 := Lib.hid hr6
        clear hb6 EN hr6 hO6
        go_wp2_with fail
        refine SO.mono ?_
        rintro e w7 ⟨v7, rfl, hO7, hb7⟩
        have HB7 := Lib.hid (HB6.out.trans (hb7.mono HB6.out.size))
        have AL := r24_all_same v6 v7 _ w7.heap.size w7 ((HR6.out.below (Nat.le_refl _) hb7).mono hb7.size) (hO7.rowN hb7.size) (Nat.le_refl _) (by rw [sortN_len, List.length_map]; omega)
        clear hb7 SO hO7
        go_wp2_with fail
        refine AL.mono ?_
        rintro e w8 ⟨rfl, hb8⟩
        have HB8 := Lib.hid (HB7.out.trans (hb8.mono HB7.out.size))
        clear AL hb8
        go_wp2_with fail
        refine (LV.out _).mono ?_
        rintro e w9 ⟨rfl, hb9⟩
        have HB9 := Lib.hid (HB8.out.trans (hb9.mono HB8.out.size))
        clear hb9
        go_wp2_with fail
        go_ret
        exact ⟨rfl, HB9.out⟩
      case pos =>
        have d1 : decide ((i : Int) < (n : Int)) = true := decide_eq_true (by omega)
        have d1' : decide (i < n) = true := decide_eq_true hlt
        obtain ⟨e, he⟩ : ∃ e, l0[i]? = some e := ⟨l0[i]'(by have := HNL.out; omega), List.getElem?_eq_getElem (by have := HNL.out; omega)⟩
        obtain ⟨gb, o, rfl, hb, s, y0, y1, y2, y3, y4, hK⟩ := (HIN.out.carry HB.out).get he
        obtain ⟨sp, sm, sc, rfl, -, -, hsm⟩ := hK.shape
        obtain ⟨hinr, hcnt⟩ := HE.out e (List.mem_of_getElem? he)
        obtain ⟨ea, eb, ek, em, eks⟩ := e
        simp only [En.inr] at y0 y1 y2 y3 hK hsm hinr hcnt
        obtain ⟨wa, wb, wk, wn, wf⟩ := hinr
        have hWM : W.heap.size ≤ M := by have := HML.out; have := HB0.out.size; omega
        have hLu : M + 1 ≤ wu.heap.size := HS.out.lt
        have XC := Lib.hid (fun u (hu : Below W.heap.size wu u) => (show u.cell? ⟨gb, o + i * 5, none⟩ = some (.int .i64 ea) ∧ u.cell? ⟨gb, o + i * 5 + 1, none⟩ = some (.int .i64 eb) ∧ u.cell? ⟨gb, o + i * 5 + 2, none⟩ = some (.int .i64 ek) ∧ u.cell? ⟨gb, o + i * 5 + 3, none⟩ = some (.int .i64 em) ∧ u.cell? ⟨gb, o + i * 5 + 4, none⟩ = some (.slice sp sm sc) ∧ Kids u W.heap.size (.slice sp sm sc) eks from
          ⟨(hu.cell (p := ⟨gb, o + i * 5, none⟩) hb).trans y0, (hu.cell (p := ⟨gb, o + i * 5 + 1, none⟩) hb).trans y1, (hu.cell (p := ⟨gb, o + i * 5 + 2, none⟩) hb).trans y2, (hu.cell (p := ⟨gb, o + i * 5 + 3, none⟩) hb).trans y3, (hu.cell (p := ⟨gb, o + i * 5 + 4, none⟩) hb).trans y4, hK.carry hu⟩))
        have PU := Lib.hid (w_Put M g vs ea eb ek em (.slice sp sm sc) eks wu HS.out hLu wa wb wk wn wf ((KidsS.of hK).carry (fun x hx => ⟨⟨by omega, by omega⟩, rfl⟩)) (by omega))
        have CH := Lib.hid (fun u (hu : Below W.heap.size wu u) => r24_check eks (.slice sp sm sc) ea eb ek em W.heap.size u (by omega) (XC.out u hu).2.2.2.2.2 (by have := HB.out.size; have := hu.size; omega) wa wk wn wf)
        obtain ⟨zc, hzc⟩ : ∃ z, fori ea eb em (chkd ek em eks) = z := ⟨_, rfl⟩
        rw [hzc] at PU CH
        have hiI : (i : Int) < (n : Int) := by omega
        have hi0 : (0 : Int) ≤ (i : Int) := by omega
        clear hzc hK hsm wa wb wk wn wf hcnt hb he
        go_wp2_with fail
        refine PU.out.mono ?_
        rintro e w3 ⟨fresh, vs', g', rfl, h2, h3, h4, h5, h6⟩
        have HGM := HS.out.l.2
        have B3 : Below W.heap.size wu w3 := h6.b W.heap.size hWM (fun G e => by have := HGM G e; omega) HB.out.size
        have B3Z : Below w0.heap.size wu w3 := h6.b w0.heap.size (by have := HML.out; omega) (fun G e => by have := HGM G e; have := HML.out; omega) HBZ.out.1
        have O3 := HO.out.mkeep h6 (Nat.lt_succ_self M) hWM (fun G e => by have := HGM G e; omega) HB.out.size HG.out
        have HN3 := Lib.hid (fun G (e : g' = some G) => (show sv.ownBlock ≠ some G from by
          rcases h4 G e with e2 | h
          · exact HG.out G e2
          · intro e2; have := HO.out.ownLt G e2; omega))
        have HP := Lib.hid h2
        have HS3 := Lib.hid h3
        have HB3 := Lib.hid B3
        have HB3Z := Lib.hid B3Z
        have HO3 := Lib.hid O3
        have C3 := CH.out w3 B3
        obtain ⟨z0, z1, z2, z3, z4, -⟩ := XC.out w3 B3
        clear h2 h3 h4 h5 h6 B3 B3Z O3 PU CH y0 y1 y2 y3 y4
        go_wp2_with fail
        refine C3.mono ?_
        rintro e w4 ⟨rfl, hb4⟩
        have HZ4 := Lib.hid hb4.size
        have HS4 := Lib.hid (HS3.out.below hb4)
        have HB4 := Lib.hid (HB3.out.trans (hb4.mono (by have := HB.out.size; have := HB3.out.size; omega)))
        have HB4Z := Lib.hid (HB3Z.out.trans (hb4.mono (by have := HBZ.out.1; have := HB3Z.out.size; omega)))
        have HO4 := Lib.hid (HO3.out.below hb4 (by have := HB.out.size; have := HB3.out.size; omega))
        have dz : (zc != zc) = false := by simp
        clear C3 hb4 z0 z1 z2 z3 z4
        by_cases hz : zc = 0
        case neg =>
          have d2 : (zc != 0) = true := by simp [hz]
          obtain ⟨-, rfl, rfl⟩ := HP.out.resolve_right (fun h => hz h.1)
          clear hz HP
          go_wp2_with fail
          go_roundw
          case rel => exact ⟨i + 1, _, g', vs', by go_num, rfl, by omega, by omega, HS4, HO4, HN3, Lib.hid (HB.out.trans HB4.out), Lib.hid ⟨by have := HBZ.out.1; have := HB4Z.out.size; omega, HBZ.out.2.trans HB4Z.out⟩⟩
          case measure => simp only [intOf]; omega
        case pos =>
          subst hz
          have hP := (HP.out.resolve_left (fun h => h.1 rfl)).2
          have HPR := Lib.hid hP
          have hl' := put_len hP
          obtain ⟨z0, z1, z2, z3, z4, hk4⟩ := XC.out w4 HB4.out
          have RP := r26_put sv (vs.map P6.x) ea eb ek em (.slice sp sm sc) eks W.heap.size (M + 1) w4 HO4.out hk4 (by omega) (by have := HB4.out.size; have := HS4.out.lt; omega) (by rw [List.length_map]; omega)
          clear hP HP hk4
          go_wp2_with fail
          refine RP.mono ?_
          rintro e w5 ⟨v5, zz, rfl, hr5, hb5⟩
          have HS5 := Lib.hid (HS4.out.below hb5)
          have HO5 := HO4.out.below hb5 (by have := HB.out.size; have := HB4.out.size; omega)
          obtain ⟨rfl, hO5, hv5⟩ := put_same HPR.out hr5 HO5 (show M + 1 ≤ w4.heap.size from HS4.out.lt)
          have HN5 := Lib.hid (fun G (e : g' = some G) => (show v5.ownBlock ≠ some G from by
            rcases hv5 with rfl | hv5
            · exact HN3.out G e
            · intro e2; subst e; have := hv5 G e2; have := HS4.out.gt; omega))
          have HO5 := Lib.hid hO5
          have HB5 := Lib.hid (HB4.out.trans (hb5.mono (by have := HB.out.size; have := HB4.out.size; omega)))
          have HB5Z := Lib.hid (HB4Z.out.trans (hb5.mono (by have := HBZ.out.1; have := HB4Z.out.size; omega)))
          have LE := w_Len M g' vs' w5 HS5.out
          obtain ⟨vp, vc, rfl⟩ : ∃ vp vc, v5 = .slice vp vs'.length vc := by
            rcases hO5.form with ⟨rfl, h⟩ | ⟨g, c, rfl, _⟩
            · have : vs' = [] := List.map_eq_nil_iff.1 h
              subst this; exact ⟨_, _, rfl⟩
            · rw [List.length_map]; exact ⟨_, _, rfl⟩
          have db : (fresh != fresh) = false := by cases fresh <;> rfl
          have d0 : ((0 : Int) != 0) = false := rfl
          have dl : ((vs'.length : Int) != (vs'.length : Int)) = false := by simp
          clear hr5 hb5 hO5 hv5 RP z0 z1 z2 z3 z4
          go_wp2_with fail
          refine LE.mono ?_
          rintro e w6 ⟨rfl, rfl⟩
          clear LE
          go_wp2_with fail
          go_roundw
          case rel => exact ⟨i + 1, _, g', vs', by go_num, rfl, by omega, by omega, HS5, HO5, HN5, Lib.hid (HB.out.trans HB5.out), Lib.hid ⟨by have := HBZ.out.1; have := HB5Z.out.size; omega, HBZ.out.2.trans HB5Z.out⟩⟩
          case measure => simp only [intOf]; omega
end wmapPuts
end Go.Proofs.Ytmbcfijhlpeddaa
