/- Put together by program (merge2.py): Mpg Lv26 Opene. -/
import Derived.Test.YtmbcfijhlpeddaaD11
import Derived.Test.YtmbcfijhlpeddaaN7
/- wmap: Get, Len; what is told of no map. -/
namespace Go.Proofs.Ytmbcfijhlpeddaa
open Go.ChangeShapes Go.WideShapes Go.ChangeAt Go.RowKit
set_option linter.unusedVariables false
open Go.WideMaps Go.MapKept Go.WideElems Go.ChangeMaps
set_option linter.unusedSimpArgs false
attribute [local go_sem ↓] Go.wp_at_zero Go.wp_at_succ
theorem res_ct {P : Program} {fn : Func} {p a : Tmp} {ty : TypeId} (h : fn.results = #[.cell p ty, .tmp a]) (tmps : Array Value) (w : World) (g : Nat) (t : TypeId) (cs : Array Value) (fr : Nat × Nat) (d : TypeDesc) (x : Value)
    (hp : tmps.getD p undef = .pointer (some ⟨g, 0, none⟩)) (ha : tmps.getD a undef = x) (hg : w.heap[g]? = some (.cells cs t fr))
    (hu : P.underlying ty = some d) (hd : (match d with | .struct _ | .array _ _ => true | _ => false) = true) (hi : (P.info? ty).map (·.size) = some cs.size) :
    (results fn tmps).run P w = .ok (.tuple #[.agg cs, x]) w := by
  have e : tmps[p]?.getD undef = .pointer (some ⟨g, 0, none⟩) := by simpa using hp
  have ea : tmps[a]?.getD undef = x := by simpa using ha
  simp [results, h, e, ea, asAddr, run_loadVar_row w g t ty cs fr d hg hu hd hi]
/-- A struct of three cells stored whole. -/
def u3 (w : World) (b : Nat) (x y z : Value) : World := ((w.setCell ⟨b, 0, none⟩ x).setCell ⟨b, 1, none⟩ y).setCell ⟨b, 2, none⟩ z
theorem u3_at {w : World} {b : Nat} {x y z x0 y0 z0 : Value} {T : TypeId} (h : w.heap[b]? = some (.cells #[x0, y0, z0] T (0, 0))) : (u3 w b x y z).heap[b]? = some (.cells #[x, y, z] T (0, 0)) := by
  unfold u3; rw [bset (bset (bset h _) _) _]; rfl
theorem u3_below {w : World} {b H : Nat} (x y z : Value) (h : H ≤ b) : Below H w (u3 w b x y z) := (((Below.refl _ _).setCell h _).setCell h _).setCell h _
theorem u3_other {w : World} {b i : Nat} (x y z : Value) (h : i ≠ b) : (u3 w b x y z).heap[i]? = w.heap[i]? := by
  unfold u3; rw [heap_setCell_other _ ⟨b, 2, none⟩ i _ h, heap_setCell_other _ ⟨b, 1, none⟩ i _ h, heap_setCell_other _ ⟨b, 0, none⟩ i _ h]
theorem u3_size (w : World) (b : Nat) (x y z : Value) : (u3 w b x y z).heap.size = w.heap.size := by unfold u3; simp
theorem box2z (W : World) (a b : Int) (T T' : TypeId) : ∃ w0 : World, w0 = (W.alloc (.cells #[.int .i64 a, .int .i64 b] T)).alloc (.cells #[.int .i64 0, .int .i64 0, .slice none 0 0] T') ∧ w0.cell? ⟨W.heap.size, 0, none⟩ = some (.int .i64 a) ∧ w0.cell? ⟨W.heap.size, 1, none⟩ = some (.int .i64 b) ∧ w0.heap[W.heap.size + 1]? = some (.cells #[.int .i64 0, .int .i64 0, .slice none 0 0] T' (0, 0)) ∧ Below W.heap.size W w0 ∧ w0.heap.size = W.heap.size + 2 := by
  have h1 := heap_alloc_new W (.cells #[.int .i64 a, .int .i64 b] T)
  have h2 := heap_alloc_new (W.alloc (.cells #[.int .i64 a, .int .i64 b] T)) (.cells #[.int .i64 0, .int .i64 0, .slice none 0 0] T')
  simp only [World.size_alloc] at h2
  have h3 := (Below.heap_alloc (W.alloc (.cells #[.int .i64 a, .int .i64 b] T)) (.cells #[.int .i64 0, .int .i64 0, .slice none 0 0] T') W.heap.size (by simp)).trans h1
  exact ⟨_, rfl, by rw [cell_of_row _ _ _ _ _ _ h3]; rfl, by rw [cell_of_row _ _ _ _ _ _ h3]; rfl, h2, ((Below.refl _ _).alloc (Nat.le_refl _) _).alloc (by simp) _, by simp⟩
set_option maxRecDepth 100000 in
set_option maxHeartbeats 8000000 in
theorem w_Len {L : Nat} (M : Nat) (g : Option Nat) (vs : List P6) (W : World) (hS : MapS W M L g vs) :
    Calls Try.prog 12 #[.pointer (some ⟨M, 0, none⟩)] W fun e w' => e = .returned (.int .i64 (vs.length : Nat)) ∧ W = w' := by
  obtain ⟨m0, mf⟩ := row1c hS.m
  rcases hS.e with ⟨rfl, rfl⟩ | ⟨G, rfl, hGM, hG⟩
  · clear hS
    go_enter Try.func12, Try.ntmps12
    go_wp2_with fail
    go_ret
    exact ⟨rfl, rfl⟩
  · have LM : (Builtin.len_ #[55] 3 #[.map (some G)]).run Try.prog W = .ok (.int .i64 (vs.length : Nat)) W := by
      have := run_len_map (P := Try.prog) (w := W) 55 3 G _ _ (by kernel_rfl) hG
      rw [this]
      simp [goInt, mEnts_len]
    clear hS
    go_enter Try.func12, Try.ntmps12
    go_wp2_with fail
    go_ret
    exact ⟨rfl, rfl⟩
set_option maxRecDepth 100000 in
set_option maxHeartbeats 8000000 in
theorem w_Get {L : Nat} (M : Nat) (g : Option Nat) (vs : List P6) (a b : Int) (W : World) (hS : MapS W M L g vs) (wa : -9223372036854775808 ≤ a ∧ a ≤ 9223372036854775807) (wb : -9223372036854775808 ≤ b ∧ b ≤ 9223372036854775807) :
    Calls Try.prog 13 #[.pointer (some ⟨M, 0, none⟩), .agg #[.int .i64 a, .int .i64 b]] W fun e w' => ∃ k n ja jm jc ks ok, e = .returned (.tuple #[.agg #[.int .i64 k, .int .i64 n, .slice ja jm jc], .bool ok]) ∧ Kids w' w'.heap.size (.slice ja jm jc) ks ∧ LookR vs a b k n ks ok ∧ Below W.heap.size W w' := by
  obtain ⟨w0, hw0, x0, x1, r0, hB0, hs0⟩ := box2z W a b 24 34
  obtain ⟨k, n, sp, sm, sc, ks, ok, LK, hKK, hcc, hLR⟩ := look hS a b wa wb
  have hS0 := hS.below hB0
  have L1 := LK w0 hB0
  have L2 := LK w0.drew hB0.drew
  have L3 := LK (w0.alloc (.cells #[.int .i64 0, .int .i64 0, .slice none 0 0] 34)).drew ((hB0.alloc hB0.size _).drew)
  have CL := Lib.hid (fun u (hu : Below w0.heap.size w0 u) => (show Calls Try.prog 26 #[.agg #[.int .i64 k, .int .i64 n, .slice sp sm sc]] u fun x w' => ∃ F q ja jc, x = .returned (.agg #[.int .i64 k, .int .i64 n, .slice ja ks.len jc]) ∧ kidv F 0 ks.len = .slice ja ks.len jc ∧ Cloned w' F ks q ∧ u.heap.size ≤ F ∧ Below w0.heap.size w0 w' from by
    refine (desc_clone k n (.slice sp sm sc) ks W.heap.size u ((hKK.below (Nat.le_refl _) hB0).carry (hu.mono hB0.size)) (by have := hB0.size; have := hu.size; omega) hcc).mono ?_
    rintro x w' ⟨F, q, rfl, h2, h3, h4⟩
    obtain ⟨ja, jc, hjv⟩ := kidv_form F 0 ks.len
    exact ⟨F, q, ja, jc, by rw [hjv], hjv, h2, h3, hu.trans (h4.mono hu.size)⟩))
  obtain ⟨m0, mf⟩ := row1c hS0.m
  have lM := hS0.lt
  have lX : W.heap.size < w0.heap.size := by omega
  have lR : W.heap.size + 1 < w0.heap.size := by omega
  have RR := Lib.hid (fun (u : World) (h : Below w0.heap.size w0 u) => (h.block _ lR).trans r0)
  have HBW := Lib.hid (fun (u : World) (h : Below w0.heap.size w0 u) => hB0.trans (h.mono hB0.size))
  have HLR := Lib.hid hLR
  have HC := Lib.hid hcc
  have HW0 := Lib.hid hw0.symm
  have HS0 := Lib.hid hs0
  obtain ⟨X, hX⟩ : ∃ X, W.heap.size = X := ⟨_, rfl⟩
  obtain ⟨R, hR⟩ : ∃ R, X + 1 = R := ⟨_, rfl⟩
  rw [hX] at x0 x1 lX lR RR
  rw [hR] at lR RR
  have HX := Lib.hid hX
  have HR := Lib.hid hR
  clear hS hS0 hw0 r0 hB0 hs0 wa wb LK hKK hLR hcc
  go_enter Try.func13, Try.ntmps13
  go_upto_region 1 with fail
  rw [HW0.out]
  clear hX
  go_upto_region 3 with fail
  go_cut [6, 7] from 11 to 19 (fun y6 y7 wx => y6 = .pointer (some ⟨w0.heap.size, 0, none⟩) ∧ y7 = .bool ok ∧ Hid (wx.heap[w0.heap.size]? = some (.cells #[.int .i64 k, .int .i64 n, .slice sp sm sc] 34 (0, 0))) ∧ Hid (Below w0.heap.size w0 wx) ∧ Hid (w0.heap.size < wx.heap.size))
  case first =>
    go_region
    all_goals
      (try go_wp2_with fail)
      go_meet
      first
      | exact ⟨rfl, rfl, Lib.hid (heap_alloc_new _ _), Lib.hid (((Below.refl _ _).drew).alloc (by simp) _), Lib.hid (by simp)⟩
      | exact ⟨rfl, rfl, Lib.hid (heap_alloc_new _ _), Lib.hid (((Below.refl _ _).alloc (Nat.le_refl _) _).drew), Lib.hid (by simp)⟩
      | exact ⟨rfl, rfl, Lib.hid (u3_at (w := (w0.alloc _).drew) (heap_alloc_new _ _)), Lib.hid (((((Below.refl _ _).alloc (Nat.le_refl _) _).drew.setCell (p := ⟨w0.heap.size, 0, none⟩) (Nat.le_refl _) _).setCell (p := ⟨w0.heap.size, 1, none⟩) (Nat.le_refl _) _).setCell (p := ⟨w0.heap.size, 2, none⟩) (Nat.le_refl _) _), Lib.hid (by simp)⟩
  case rest =>
    obtain ⟨rfl, rfl, HD, HBC, HZC⟩ := hcut
    clear L1 L2 L3 x0 x1 m0 mf
    obtain ⟨d0, d1, d2, -, -, -⟩ := row_cells3 HD.out
    have C1 := CL.out wc HBC.out
    obtain ⟨D, hD⟩ : ∃ D, w0.heap.size = D := ⟨_, rfl⟩
    rw [hD] at d0 d1 d2 ⊢
    clear hD
    go_wp2_with fail
    refine C1.mono ?_
    rintro e w6 ⟨F, q, ja, jc, rfl, hjv, hF, hge, hb6⟩
    have rR := RR.out w6 hb6
    obtain ⟨y0, y1, y2, f0, f1, f2⟩ := row_cells3 rR
    have HZ := Lib.hid (u3_at rR (x := .int .i64 k) (y := .int .i64 n) (z := .slice ja ks.len jc))
    have HK := Lib.hid (show Kids (u3 w6 R (.int .i64 k) (.int .i64 n) (.slice ja ks.len jc)) (u3 w6 R (.int .i64 k) (.int .i64 n) (.slice ja ks.len jc)).heap.size (.slice ja ks.len jc) ks from by
      have hFR : F ≠ R := by have := HBC.out.size; omega
      have := hF.below (w' := u3 w6 R (.int .i64 k) (.int .i64 n) (.slice ja ks.len jc)) (u3_other _ _ _ hFR) (by rw [u3_size]; exact Nat.le_refl _)
      have h := this.kids this.blk HC.out
      rw [hjv] at h
      exact h)
    have HB := Lib.hid (show Below W.heap.size W (u3 w6 R (.int .i64 k) (.int .i64 n) (.slice ja ks.len jc)) from (HBW.out _ hb6).trans (u3_below _ _ _ (by have := HX.out; have := HR.out; omega)))
    obtain ⟨wn, hwn⟩ : ∃ wn, u3 w6 R (.int .i64 k) (.int .i64 n) (.slice ja ks.len jc) = wn := ⟨_, rfl⟩
    rw [hwn] at HZ HK HB
    simp only [u3] at hwn
    have HWN := Lib.hid hwn
    clear hwn rR hF hge hb6 hjv C1 d0 d1 d2
    go_wp2_with fail
    rw [HWN.out]
    refine bodyPost_ret (res_ct (p := 4) (a := 5) (ty := 34) rfl _ _ _ 34 #[.int .i64 k, .int .i64 n, .slice ja ks.len jc] (0, 0) _ (.bool ok) rfl rfl HZ.out Try.underlying34 rfl (by kernel_rfl)) rfl ?_
    exact ⟨k, n, ja, _, jc, ks, ok, rfl, HK.out, HLR.out, HB.out⟩
end Go.Proofs.Ytmbcfijhlpeddaa
/- The page's example of layer 26; what is told of no map. -/
namespace Go.Proofs.Ytmbcfijhlpeddaa
open Go.ChangeShapes Go.WideShapes Go.ChangeAt Go.RowKit
set_option linter.unusedVariables false
set_option linter.unusedSimpArgs false
attribute [local go_sem ↓] Go.wp_at_zero Go.wp_at_succ
theorem KidsS.nought' (w : World) (S : Nat → Prop) : KidsS w S (.slice none 0 0) .nil := ⟨none, 0, rfl, Nat.le_refl _, by unfold maxLen; omega, .inl rfl⟩
theorem fo26a : fori 8 0 8 (chkd 1 8 .nil) = 0 := by decide +kernel
theorem fo26b : fori 8 0 8 (chkd 3 8 .nil) = 0 := by decide +kernel
set_option maxRecDepth 100000 in
set_option maxHeartbeats 8000000 in
theorem live26 (W : World) : Calls Try.prog 7 #[] W fun e w' => e = .returned (.bool true) ∧ Below W.heap.size W w' := by
  have NW := wmap_new W
  obtain ⟨M, hM⟩ : ∃ M, W.heap.size = M := ⟨_, rfl⟩
  have HM := Lib.hid hM
  rw [hM] at NW
  have P1 := Lib.hid (fun w (h : MapS w M (M + 1) none []) => by
    have := w_Put M none [] 8 0 1 8 (.slice none 0 0) .nil w h h.lt (by decide) (by decide) (by decide) (by decide) trivial (KidsS.nought' _ _) (by decide)
    rw [fo26a] at this
    exact this)
  have P2 := Lib.hid (fun w g vs (h : MapS w M (M + 1) g vs) => by
    have := w_Put M g vs 8 0 3 8 (.slice none 0 0) .nil w h h.lt (by decide) (by decide) (by decide) (by decide) trivial (KidsS.nought' _ _) (by decide)
    rw [fo26b] at this
    exact this)
  have G3 := Lib.hid (fun w g vs (h : MapS w M (M + 1) g vs) => w_Get M g vs 8 0 w h (by decide) (by decide))
  have L4 := Lib.hid (fun w g vs (h : MapS w M (M + 1) g vs) => w_Len M g vs w h)
  clear hM
  go_enter Try.func7, Try.ntmps7
  go_wp2_with fail
  refine NW.mono ?_
  rintro e w1 ⟨rfl, hs1, hb1⟩
  have Q1 := P1.out w1 hs1
  have B1 := Lib.hid hb1
  clear NW hs1 hb1 P1
  go_wp2_with fail
  refine Q1.mono ?_
  rintro e w2 ⟨fresh, vs2, g2, rfl, hc, hs2, hg2, -, hk2⟩
  obtain ⟨rfl, v', rfl⟩ : fresh = true ∧ ∃ v', vs2 = [⟨8, 0, 1, 8, v', .nil⟩] := by
    rcases hc with ⟨h, _⟩ | ⟨_, ⟨_, _, h⟩ | ⟨h1, _, v', h2⟩⟩
    · exact absurd rfl h
    · obtain ⟨p, hp, _⟩ := h; cases hp
    · exact ⟨h1, v', h2⟩
  have Q2 := P2.out w2 g2 _ hs2
  have K2 := Lib.hid hk2
  have S2 := Lib.hid hg2
  clear Q1 hc hs2 hk2 hg2 P2
  go_wp2_with fail
  refine Q2.mono ?_
  rintro e w3 ⟨fresh, vs3, g3, rfl, hc, hs3, hg3, -, hk3⟩
  obtain ⟨rfl, rfl⟩ : fresh = false ∧ vs3 = [⟨8, 0, 1, 8, v', .nil⟩] := by
    rcases hc with ⟨h, _⟩ | ⟨_, ⟨h1, h2, _⟩ | ⟨_, h, _⟩⟩
    · exact absurd rfl h
    · exact ⟨h1, h2⟩
    · exact absurd ⟨_, List.mem_singleton.2 rfl, rfl, rfl⟩ h
  have Q3 := G3.out w3 g3 _ hs3
  have S3 := Lib.hid hs3
  have K3 := Lib.hid hk3
  clear Q2 hc hs3 hk3 hg3 G3
  go_wp2_with fail
  refine Q3.mono ?_
  rintro e w4 ⟨k, n, ja, jm, jc, ks, ok, rfl, -, hl, hb4⟩
  obtain ⟨rfl, rfl⟩ : ok = true ∧ k = 1 := by
    rcases hl with ⟨h1, p, hp, _, _, h2, _⟩ | ⟨_, h, _⟩
    · rw [List.mem_singleton] at hp
      subst hp
      exact ⟨h1, h2⟩
    · exact absurd ⟨_, List.mem_singleton.2 rfl, rfl, rfl⟩ h
  obtain ⟨w5, hw5⟩ : ∃ w5, w4.alloc (.cells #[.int .i64 1, .int .i64 n, .slice ja jm jc] 34) = w5 := ⟨_, rfl⟩
  have hb5 : Below w4.heap.size w4 w5 := by rw [← hw5]; exact (Below.refl _ _).alloc (Nat.le_refl _) _
  have hn5 := heap_alloc_new w4 (.cells #[.int .i64 1, .int .i64 n, .slice ja jm jc] 34)
  rw [hw5] at hn5
  obtain ⟨d0, d1, d2, -, -, -⟩ := row_cells3 hn5
  have Q5 := L4.out w5 g3 _ ((S3.out.below hb4).below hb5)
  have B5 := Lib.hid (show Below W.heap.size W w5 from by
    have h1 : Below W.heap.size W w1 := by have := B1.out; rw [← HM.out] at this; exact this
    have z1 := h1.size
    have h2 := K2.out.b W.heap.size (by rw [HM.out]; exact Nat.le_refl _) (fun G e => by cases e) z1
    have h3 := K3.out.b W.heap.size (by rw [HM.out]; exact Nat.le_refl _) (fun G e => by rcases S2.out G e with h | h; (cases h); omega) (by have := K2.out.z; omega)
    have z3 := (h1.trans (h2.trans h3)).size
    exact (h1.trans (h2.trans h3)).trans ((hb4.trans (hb5.mono hb4.size)).mono z3))
  have HW5 := Lib.hid hw5
  clear Q3 hl hb4 hb5 hn5 hw5 L4
  obtain ⟨D, hD⟩ : ∃ D, w4.heap.size = D := ⟨_, rfl⟩
  rw [hD] at d0 d1 d2
  go_upto_region 7 with fail
  rw [HW5.out]
  go_wp2_with fail
  refine Q5.mono ?_
  rintro e w6 ⟨rfl, rfl⟩
  go_wp2_with fail
  go_ret
  exact ⟨rfl, B5.out⟩
set_option maxRecDepth 100000 in
theorem nil_Put (a b k n : Int) (vp : Option Addr) (vm vc : Nat) (W : World) : Calls Try.prog 9 #[.pointer none, .agg #[.int .i64 a, .int .i64 b, .int .i64 k, .int .i64 n, .slice vp vm vc]] W fun e w' => e = .returned (.tuple #[.bool false, .int .i64 1]) ∧ Below W.heap.size W w' := by
  have hB : Below W.heap.size W (W.alloc (.cells #[.int .i64 a, .int .i64 b, .int .i64 k, .int .i64 n, .slice vp vm vc] 36)) := (Below.refl _ _).alloc (Nat.le_refl _) _
  have HB := Lib.hid hB
  clear hB
  go_enter Try.func9, Try.ntmps9
  go_wp2_with fail
  go_ret2
  exact ⟨rfl, HB.out⟩
set_option maxRecDepth 100000 in
theorem nil_Merge (v : Value) (W : World) : Calls Try.prog 19 #[.pointer none, v] W fun e w' => e = .returned (.tuple #[.int .i64 0, .int .i64 1]) ∧ W = w' := by
  go_enter Try.func19, Try.ntmps19
  go_wp2_with fail
  go_ret2
  exact ⟨rfl, rfl⟩
set_option maxRecDepth 100000 in
theorem nil_Len (W : World) : Calls Try.prog 12 #[.pointer none] W fun e w' => e = .returned (.int .i64 0) ∧ W = w' := by
  go_enter Try.func12, Try.ntmps12
  go_wp2_with fail
  go_ret
  exact ⟨rfl, rfl⟩
set_option maxRecDepth 100000 in
theorem nil_Entries (W : World) : Calls Try.prog 17 #[.pointer none] W fun e w' => e = .returned (.slice none 0 0) ∧ W = w' := by
  go_enter Try.func17, Try.ntmps17
  go_wp2_with fail
  go_ret
  exact ⟨rfl, rfl⟩
set_option maxRecDepth 100000 in
set_option maxHeartbeats 4000000 in
theorem nil_Get (a b : Int) (W : World) : Calls Try.prog 13 #[.pointer none, .agg #[.int .i64 a, .int .i64 b]] W fun e w' => e = .returned (.tuple #[.agg #[.int .i64 0, .int .i64 0, .slice none 0 0], .bool false]) ∧ Below W.heap.size W w' := by
  obtain ⟨w0, hw0, x0, x1, r0, hB0, hs0⟩ := box2z W a b 24 34
  have HB := Lib.hid hB0
  have HW0 := Lib.hid hw0.symm
  obtain ⟨y0, y1, y2, f0, f1, f2⟩ := row_cells3 r0
  have rz := u3_at r0 (x := .int .i64 0) (y := .int .i64 0) (z := .slice none 0 0)
  have HZ := Lib.hid rz
  have HB2 := Lib.hid (hB0.trans (u3_below (w := w0) (b := W.heap.size + 1) (.int .i64 0) (.int .i64 0) (.slice none 0 0) (show W.heap.size ≤ W.heap.size + 1 by omega)))
  obtain ⟨wn, hwn⟩ : ∃ wn, u3 w0 (W.heap.size + 1) (.int .i64 0) (.int .i64 0) (.slice none 0 0) = wn := ⟨_, rfl⟩
  rw [hwn] at HZ HB2
  simp only [u3] at hwn
  have HWN := Lib.hid hwn
  clear hwn rz r0 hw0 hB0 hs0
  go_enter Try.func13, Try.ntmps13
  go_upto_region 1 with fail
  rw [HW0.out]
  go_wp2_with fail
  rw [HWN.out]
  refine bodyPost_ret (res_ct (p := 4) (a := 5) (ty := 34) rfl _ _ _ 34 #[.int .i64 0, .int .i64 0, .slice none 0 0] (0, 0) _ (.bool false) rfl rfl HZ.out Try.underlying34 rfl (by kernel_rfl)) rfl ?_
  exact ⟨rfl, HB2.out⟩
end Go.Proofs.Ytmbcfijhlpeddaa
/- A parameter api.Entry: a key of two ints and a descriptor. -/
namespace Go.Proofs.Ytmbcfijhlpeddaa
open Go.ChangeShapes Go.WideShapes Go.ChangeAt Go.RowKit
set_option linter.unusedVariables false
set_option linter.unusedSimpArgs false
section
variable {H : Type} {enc : TypeId × Value → H} {w : World} {sp : Nat → Bool} {held : Bool}
set_option maxRecDepth 100000 in
theorem trod_entry (f0 f1 g0 g1 : Field) (hs : Try.prog.underlying 36 = some (.struct #[f0, f1])) (hk : f0.type = 24) (hd : f1.type = 34) (hg : Try.prog.underlying 24 = some (.struct #[g0, g1]))
    (j0 : Try.prog.underlying g0.type = some (.int .i64)) (j1 : Try.prog.underlying g1.type = some (.int .i64)) (o0 : f0.offset = 0) (o1 : f1.offset = 2) (q0 : g0.offset = 0) (q1 : g1.offset = 1) (y0 : Try.prog.cellsOf g0.type = 1) (y1 : Try.prog.cellsOf g1.type = 1)
    (hCK : Try.prog.cellsOf 24 = 2) (hCD : Try.prog.cellsOf 34 = 3) (hC : Try.prog.cellsOf 36 = 5) (base fuel : Nat) (cs : List Value) (x : DataW H × List MemPlace)
    (hD : ∀ (fuel : Nat) (cs : List Value) (x : DataW H × List MemPlace), DataW.trod enc Try.prog w base sp held fuel 34 cs = some x →
      ∃ (k n : Int) (s : Value) (ks : Fo), cs = [.int .i64 k, .int .i64 n, s] ∧ Kids w w.heap.size s ks ∧ ks.wf ∧ (-9223372036854775808 ≤ k ∧ k ≤ 9223372036854775807) ∧ (-9223372036854775808 ≤ n ∧ n ≤ 9223372036854775807) ∧ ks.cnt + 1 ≤ Rows.uptoBulk x.1)
    (h : DataW.trod enc Try.prog w base sp held fuel 36 cs = some x) :
    ∃ (a b k n : Int) (s : Value) (ks : Fo), cs = [.int .i64 a, .int .i64 b, .int .i64 k, .int .i64 n, s] ∧ Kids w w.heap.size s ks ∧ ks.wf ∧ (-9223372036854775808 ≤ a ∧ a ≤ 9223372036854775807) ∧ (-9223372036854775808 ≤ b ∧ b ≤ 9223372036854775807) ∧ (-9223372036854775808 ≤ k ∧ k ≤ 9223372036854775807) ∧ (-9223372036854775808 ≤ n ∧ n ≤ 9223372036854775807) ∧ ks.cnt + 1 ≤ Rows.uptoBulk x.1 := by
  obtain ⟨xs, m, rfl, rfl, hlen, hxs, hel⟩ := DataW.trod_struct hs h
  rw [hC] at hlen
  obtain ⟨c0, c1, c2, c3, c4, rfl⟩ : ∃ c0 c1 c2 c3 c4, cs = [c0, c1, c2, c3, c4] := by
    match cs, hlen with
    | [a, b, c, d, e], _ => exact ⟨a, b, c, d, e, rfl⟩
  obtain ⟨x0, x1, rfl⟩ : ∃ x0 x1, xs = [x0, x1] := by
    have h3 : xs.length = 2 := hxs
    match xs, h3 with
    | [a, b], _ => exact ⟨a, b, rfl⟩
  have e0 := hel 0 f0 rfl
  have e1 := hel 1 f1 rfl
  rw [o0, hk, hCK] at e0
  rw [o1, hd, hCD] at e1
  simp only [List.drop_zero, List.take_succ_cons, List.take_zero, List.getElem?_cons_zero, List.drop_succ_cons, List.getElem?_cons_succ] at e0 e1
  obtain ⟨ys, m', rfl, hx0, hlen', hys, hel'⟩ := DataW.trod_struct hg e0
  obtain ⟨z0, z1, rfl⟩ : ∃ z0 z1, ys = [z0, z1] := by
    have h3 : ys.length = 2 := hys
    match ys, h3 with
    | [a, b], _ => exact ⟨a, b, rfl⟩
  have d0 := hel' 0 g0 rfl
  have d1 := hel' 1 g1 rfl
  rw [q0, y0] at d0
  rw [q1, y1] at d1
  simp only [List.drop_zero, List.take_succ_cons, List.take_zero, List.getElem?_cons_zero, List.drop_succ_cons, List.getElem?_cons_succ] at d0 d1
  obtain ⟨a, ha, -, wa⟩ := DataW.trod_int j0 d0
  obtain ⟨b, hb, -, wb⟩ := DataW.trod_int j1 d1
  simp only [List.cons.injEq, and_true] at ha hb
  subst ha hb
  obtain ⟨k, n, s, ks, hcs, hK, wf, wk, wn, hc⟩ := hD _ _ _ e1
  simp only [List.cons.injEq, and_true] at hcs
  obtain ⟨rfl, rfl, rfl⟩ := hcs
  refine ⟨a, b, k, n, c4, ks, rfl, hK, wf, wf_i64 wa, wf_i64 wb, wk, wn, ?_⟩
  simp only [List.map_cons, List.map_nil, Rows.uptoBulk, Rows.uptoBulkAll]
  omega
end
set_option maxRecDepth 100000 in
theorem open_entry {H : Type} {enc : TypeId × Value → H} {w : World} {sp : Nat → Bool} {held : Bool} {base b0 : Nat} {r : Reach} {v : Value} {d : DataW H} {p : List MemPlace} (hv : Value.okWide Try.prog w r b0 36 v) (h : DataW.Trod enc Try.prog w base sp held 36 v d p) :
    ∃ (a b k n : Int) (s : Value) (ks : Fo), v = .agg #[.int .i64 a, .int .i64 b, .int .i64 k, .int .i64 n, s] ∧ Kids w w.heap.size s ks ∧ ks.wf ∧ (-9223372036854775808 ≤ a ∧ a ≤ 9223372036854775807) ∧ (-9223372036854775808 ≤ b ∧ b ≤ 9223372036854775807) ∧ (-9223372036854775808 ≤ k ∧ k ≤ 9223372036854775807) ∧ (-9223372036854775808 ≤ n ∧ n ≤ 9223372036854775807) ∧ ks.cnt + 1 ≤ Rows.uptoBulk d := by
  obtain ⟨cs, rfl, hsz⟩ := okWide_struct Try.underlying36 hv
  obtain ⟨fuel, hf⟩ := h
  have hD := trod_fo (H := H) (enc := enc) (w := w) (sp := sp) (held := held) 32 _ _ _ Try.underlying34 Try.underlying32 Try.underlying3 Try.underlying3 rfl rfl rfl (by kernel_rfl) (by kernel_rfl) (by kernel_rfl) (by kernel_rfl) base
  obtain ⟨a, b, k, n, s, ks, e, g⟩ := trod_entry _ _ _ _ Try.underlying36 rfl rfl Try.underlying24 Try.underlying3 Try.underlying3 rfl rfl rfl rfl (by kernel_rfl) (by kernel_rfl) (by kernel_rfl) (by kernel_rfl) (by kernel_rfl) base fuel _ _ hD hf
  simp only [Value.cells] at e
  refine ⟨a, b, k, n, s, ks, ?_, g⟩
  congr 1
  exact Array.ext' (by simpa using e)
end Go.Proofs.Ytmbcfijhlpeddaa
