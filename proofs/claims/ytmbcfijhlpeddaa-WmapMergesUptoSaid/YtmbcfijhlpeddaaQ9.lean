/- Put together by program (merge2.py): Mpy Mpz Mpg Lv26 Mit. -/
import Derived.Deep.CutBlock
import Derived.Maps.RangeRun
import Derived.Test.YtmbcfijhlpeddaaQ8
/- wmap: put of one that is not there yet. -/
namespace Go.Proofs.Ytmbcfijhlpeddaa
open Go.ChangeShapes Go.WideShapes Go.ChangeAt Go.RowKit
set_option linter.unusedVariables false
open Go.WideMaps Go.MapKept Go.WideElems Go.ChangeMaps
set_option linter.unusedSimpArgs false
attribute [local go_sem ↓] Go.wp_at_zero Go.wp_at_succ
theorem map_isnil (u : World) : (binOp .eql 55 (.map none) (.map none)).run Try.prog u = .ok (.bool true) u := by kernel_rfl
theorem map_notnil (g : Nat) (u : World) : (binOp .eql 55 (.map (some g)) (.map none)).run Try.prog u = .ok (.bool false) u := by kernel_rfl
theorem mkeep_set {w : World} {M G : Nat} {o : Obj} : MKeep w (setBlock w G o) M (some G) := ⟨by rw [setBlock_size]; exact Nat.le_refl _, fun x _ _ hx => setBlock_heap (fun e => hx (by rw [e])), fun H _ h2 _ => setBlock_below (h2 G rfl)⟩
theorem KidsS.form' {w : World} {S : Nat → Prop} {v : Value} {f : Fo} (h : KidsS w S v f) : ∃ p m c, v = .slice p m c := by
  obtain ⟨a, c, rfl, _⟩ := h; exact ⟨_, _, _, rfl⟩
theorem MKeep.drew_below {w w' w'' : World} {M : Nat} {g : Option Nat} (h : MKeep w w' M g) (k : Below w'.heap.size w' w'') : MKeep w w'' M g := h.trans (MKeep.of_below M g k)
set_option maxRecDepth 100000 in
set_option maxHeartbeats 8000000 in
theorem put_gone {L : Nat} (M G : Nat) (vs : List P6) (a b k n : Int) (v : Value) (ks : Fo) (W : World) (hS : MapS W M L (some G) vs) (hLW : L ≤ W.heap.size) (hn : ¬ hasK vs a b) (ha : -9223372036854775808 ≤ a ∧ a ≤ 9223372036854775807) (hb : -9223372036854775808 ≤ b ∧ b ≤ 9223372036854775807) (hK : KidsS W (fun x => x < W.heap.size ∧ x ≠ M) v ks) (hc : ks.cnt ≤ 1048576) :
    Calls Try.prog 23 #[.pointer (some ⟨M, 0, none⟩), .agg #[.int .i64 a, .int .i64 b, .int .i64 k, .int .i64 n, v]] W fun e w' => e = .returned (.bool true) ∧ (∃ v' g', MapS w' M L (some g') (vs ++ [⟨a, b, k, n, v', ks⟩]) ∧ g' = G) ∧ MKeep W w' M (some G) := by
  obtain ⟨vp, vm, vc, rfl⟩ := hK.form'
  obtain ⟨w0, hw0, r0, hB0, hs0⟩ := box5 W a b k n (.slice vp vm vc) 36
  have hS0 := hS.below hB0
  have CL := Lib.hid (fun u (hz : W.heap.size ≤ u.heap.size) (hu : ∀ x, x < W.heap.size → x ≠ M → u.heap[x]? = W.heap[x]?) => (show Calls Try.prog 26 #[.agg #[.int .i64 k, .int .i64 n, .slice vp vm vc]] u fun x w' => ∃ F q ja jc, x = .returned (.agg #[.int .i64 k, .int .i64 n, .slice ja ks.len jc]) ∧ kidv F 0 ks.len = .slice ja ks.len jc ∧ Cloned w' F ks q ∧ u.heap.size ≤ F ∧ Below u.heap.size u w' from by
    have hku : Kids u u.heap.size (.slice vp vm vc) ks := (hK.carry (S' := fun x => x < u.heap.size) (fun x hx => ⟨by omega, hu x hx.1 hx.2⟩)).to (fun x hx => hx)
    refine (desc_clone k n (.slice vp vm vc) ks u.heap.size u hku (Nat.le_refl _) hc).mono ?_
    rintro x w' ⟨F, q, rfl, h2, h3, h4⟩
    obtain ⟨ja, jc, hjv⟩ := kidv_form F 0 ks.len
    exact ⟨F, q, ja, jc, by rw [hjv], hjv, h2, h3, h4⟩))
  have W0 := Lib.hid (fun x (hx : x < W.heap.size) => hB0.block x hx)
  have lX : W.heap.size < w0.heap.size := by omega
  have lM0 := hS.lt
  have lM := hS0.lt
  obtain ⟨x0, x1, x2, x3, x4⟩ := cells5 r0
  obtain ⟨m0, mf⟩ := row1c hS0.m
  have XC := Lib.hid (fun (u : World) (h : u.heap[W.heap.size]? = w0.heap[W.heap.size]?) => cells5 (h.trans r0))
  have KB := Lib.hid (MKeep.of_below M (some G) hB0)
  obtain ⟨G', e1, hGM, hG⟩ := hS0.e.resolve_left (fun e => by cases e.1)
  cases e1
  have lG : G < w0.heap.size := by
    by_cases hlt : G < w0.heap.size
    · exact hlt
    · rw [Array.getElem?_eq_none (by omega)] at hG; cases hG
  have hl := fun w h => (map_gone hS.i ha hb hn w G h).1
  unfold kv at hl
  have L1 := hl w0 hG
  have L2 : (Instr.lookup 55 (.map (some G)) (.agg #[.int .i64 a, .int .i64 b]) true).run Try.prog w0.drew = .ok (.tuple #[.agg #[.int .i64 0, .int .i64 0, .slice none 0 0], .bool false]) w0.drew := hl w0.drew hG
  have L3 : (Instr.lookup 55 (.map (some G)) (.agg #[.int .i64 a, .int .i64 b]) true).run Try.prog (w0.alloc (.cells #[.int .i64 0, .int .i64 0, .slice none 0 0] 34)).drew = .ok (.tuple #[.agg #[.int .i64 0, .int .i64 0, .slice none 0 0], .bool false]) (w0.alloc (.cells #[.int .i64 0, .int .i64 0, .slice none 0 0] 34)).drew := hl _ ((Below.heap_alloc _ _ _ lG).trans hG)
  have HS0 := Lib.hid hS0
  have HW0 := Lib.hid hw0.symm
  have UP := Lib.hid (fun (w6 : World) (G : Nat) (h : MapS w6 M L (some G) vs) => (show ∃ hh : w6.heap[G]? = some (.map (mEnts 0 vs).toArray (vs).length), True from by
    obtain ⟨G', e1, _, hG⟩ := h.e.resolve_left (fun e => by cases e.1)
    cases e1
    exact ⟨hG, trivial⟩))
  have MU := Lib.hid (fun (w6 : World) (G F : Nat) (q : List Nd) (h : MapS w6 M L (some G) vs) (hC : Cloned w6 F ks q) (h1 : L ≤ F) (h2 : F ≠ G) => (show (Instr.mapUpdate 55 (.map (some G)) (.agg #[.int .i64 a, .int .i64 b]) (.agg #[.int .i64 k, .int .i64 n, kidv F 0 ks.len])).run Try.prog w6 = .ok () (setBlock w6 G (.map (mEnts 0 (vs ++ [⟨a, b, k, n, kidv F 0 ks.len, ks⟩])).toArray (vs ++ [(⟨a, b, k, n, kidv F 0 ks.len, ks⟩ : P6)]).length)) ∧ MapS (setBlock w6 G (.map (mEnts 0 (vs ++ [⟨a, b, k, n, kidv F 0 ks.len, ks⟩])).toArray (vs ++ [(⟨a, b, k, n, kidv F 0 ks.len, ks⟩ : P6)]).length)) M L (some G) (vs ++ [⟨a, b, k, n, kidv F 0 ks.len, ks⟩]) from by
    obtain ⟨hG, -⟩ := UP.out w6 G h
    exact ⟨(map_gone h.i ha hb hn w6 G hG).2 k n (kidv F 0 ks.len) ks, h.more ha hb hn hC h1 h2 hc⟩))
  obtain ⟨X, hX⟩ : ∃ X, W.heap.size = X := ⟨_, rfl⟩
  rw [hX] at x0 x1 x2 x3 x4 lX XC lM0
  have HX := Lib.hid hX
  clear hS hS0 hn ha hb hK hc hw0 r0 hB0 hs0 hl UP
  go_enter Try.func23, Try.ntmps23
  go_upto_region 1 with fail
  rw [HW0.out]
  go_cut [6] from 7 to 16 (fun y wx => y = .bool false ∧ Hid (Below w0.heap.size w0 wx))
  case first =>
    go_region
    all_goals
      (try go_wp2_with fail)
      go_meet
      first
      | exact ⟨rfl, Lib.hid (((Below.refl _ _).drew).alloc (by simp) _)⟩
      | exact ⟨rfl, Lib.hid (((Below.refl _ _).alloc (Nat.le_refl _) _).drew)⟩
      | exact ⟨rfl, Lib.hid (((((Below.refl _ _).alloc (Nat.le_refl _) _).drew.setCell (p := ⟨w0.heap.size, 0, none⟩) (Nat.le_refl _) _).setCell (p := ⟨w0.heap.size, 1, none⟩) (Nat.le_refl _) _).setCell (p := ⟨w0.heap.size, 2, none⟩) (Nat.le_refl _) _)⟩
  case rest =>
    obtain ⟨rfl, HBC⟩ := hcut
    clear L1 L2 L3 x0 x1 x2 x3 x4 m0 mf
    have hSc := HS0.out.below HBC.out
    have hcz := HBC.out.size
    obtain ⟨m0, mf⟩ := row1c hSc.m
    obtain ⟨x0, x1, x2, x3, x4⟩ := XC.out wc (HBC.out.block _ lX)
    have lXc : X < wc.heap.size := by omega
    have KC := Lib.hid (KB.out.trans (MKeep.of_below M (some G) HBC.out))
    have HSc := Lib.hid hSc
    have lMc := hSc.lt
    clear hSc
    have BE := map_notnil G wc
    obtain ⟨u1, hu1'⟩ : ∃ u1, u1 = wc := ⟨_, rfl⟩
    have hu1 := HSc.out
    have hx1 : wc.heap[X]? = wc.heap[X]? := rfl
    have KU := KC
    have KALL := Lib.hid (fun x (hx : x < W.heap.size) (_ : x ≠ M) => (HBC.out.block x (by have := HX.out; omega)).trans (W0.out x hx))
    have lGc : G < wc.heap.size := by omega
    go_upto_region 6 with fail
    subst hu1'
    have ho1 : ∀ x, x < u1.heap.size → x ≠ M → u1.heap[x]? = u1.heap[x]? := fun x hx hxM => rfl
    have HU1 := Lib.hid hu1
    obtain ⟨m1, mf1⟩ := row1c hu1.m
    obtain ⟨z0, z1, z2, z3, z4⟩ := XC.out u1 (HBC.out.block _ lX)
    have hCu := CL.out u1.drew (show W.heap.size ≤ u1.heap.size from (KU.out).z) (fun x hx hxM => KALL.out x hx hxM)
    have HC := Lib.hid hCu
    have lu : X < u1.heap.size := by have := (KU.out).z; have := HX.out; omega
    have lMu := hu1.lt
    clear x0 x1 x2 x3 x4 m0 mf hu1 hCu
    go_region_with (go_at_call 26; go_loud (with_reducible refine HC.out.mono ?_; rintro e w6 ⟨F, q, ja, jc, rfl, hjv, hF, hge, hB6⟩; have hD := ((Below.refl u1.heap.size u1).drew); replace hB6 := hD.trans (hB6.mono hD.size); replace hge := Nat.le_trans hD.size hge; clear hD; have hS6 := HU1.out.below hB6; obtain ⟨MU1, MU2⟩ := MU.out w6 G F q hS6 hF (by omega) (by omega); rw [hjv] at MU1; obtain ⟨k0, k1, k2, k3, k4⟩ := XC.out w6 ((hB6.block _ lu).trans (HBC.out.block _ lX)); obtain ⟨n0, nf⟩ := row1c hS6.m; obtain ⟨w7, hw7⟩ : ∃ w7, setBlock w6 G (.map (mEnts 0 (vs ++ [⟨a, b, k, n, kidv F 0 ks.len, ks⟩])).toArray (vs ++ [(⟨a, b, k, n, kidv F 0 ks.len, ks⟩ : P6)]).length) = w7 := ⟨_, rfl⟩; rw [← hjv, hw7] at MU1; rw [hw7] at MU2; rw [hjv] at MU1; have E1 := Lib.hid MU2; have E2 := Lib.hid (show MKeep w6 w7 M (some G) by rw [← hw7]; exact mkeep_set); have E3 := Lib.hid hB6; clear hw7 MU2 hS6 hF hge hB6 hjv))
    all_goals
      go_wp2_with fail
      go_ret
      refine ⟨rfl, ⟨_, G, E1.out, rfl⟩, ?_⟩
      exact (KU.out.trans (MKeep.of_below M (some G) E3.out)).trans E2.out
set_option maxRecDepth 100000 in
set_option maxHeartbeats 8000000 in
theorem put_first {L : Nat} (M : Nat) (a b k n : Int) (v : Value) (ks : Fo) (W : World) (hS : MapS W M L none ([] : List P6)) (hLW : L ≤ W.heap.size) (hn : ¬ hasK ([] : List P6) a b) (ha : -9223372036854775808 ≤ a ∧ a ≤ 9223372036854775807) (hb : -9223372036854775808 ≤ b ∧ b ≤ 9223372036854775807) (hK : KidsS W (fun x => x < W.heap.size ∧ x ≠ M) v ks) (hc : ks.cnt ≤ 1048576) :
    Calls Try.prog 23 #[.pointer (some ⟨M, 0, none⟩), .agg #[.int .i64 a, .int .i64 b, .int .i64 k, .int .i64 n, v]] W fun e w' => e = .returned (.bool true) ∧ (∃ v' g', MapS w' M L (some g') (([] : List P6) ++ [⟨a, b, k, n, v', ks⟩]) ∧ W.heap.size ≤ g') ∧ MKeep W w' M none := by
  obtain ⟨vp, vm, vc, rfl⟩ := hK.form'
  obtain ⟨w0, hw0, r0, hB0, hs0⟩ := box5 W a b k n (.slice vp vm vc) 36
  have hS0 := hS.below hB0
  have CL := Lib.hid (fun u (hz : W.heap.size ≤ u.heap.size) (hu : ∀ x, x < W.heap.size → x ≠ M → u.heap[x]? = W.heap[x]?) => (show Calls Try.prog 26 #[.agg #[.int .i64 k, .int .i64 n, .slice vp vm vc]] u fun x w' => ∃ F q ja jc, x = .returned (.agg #[.int .i64 k, .int .i64 n, .slice ja ks.len jc]) ∧ kidv F 0 ks.len = .slice ja ks.len jc ∧ Cloned w' F ks q ∧ u.heap.size ≤ F ∧ Below u.heap.size u w' from by
    have hku : Kids u u.heap.size (.slice vp vm vc) ks := (hK.carry (S' := fun x => x < u.heap.size) (fun x hx => ⟨by omega, hu x hx.1 hx.2⟩)).to (fun x hx => hx)
    refine (desc_clone k n (.slice vp vm vc) ks u.heap.size u hku (Nat.le_refl _) hc).mono ?_
    rintro x w' ⟨F, q, rfl, h2, h3, h4⟩
    obtain ⟨ja, jc, hjv⟩ := kidv_form F 0 ks.len
    exact ⟨F, q, ja, jc, by rw [hjv], hjv, h2, h3, h4⟩))
  have W0 := Lib.hid (fun x (hx : x < W.heap.size) => hB0.block x hx)
  have lX : W.heap.size < w0.heap.size := by omega
  have lM0 := hS.lt
  have lM := hS0.lt
  obtain ⟨x0, x1, x2, x3, x4⟩ := cells5 r0
  obtain ⟨m0, mf⟩ := row1c hS0.m
  have XC := Lib.hid (fun (u : World) (h : u.heap[W.heap.size]? = w0.heap[W.heap.size]?) => cells5 (h.trans r0))
  have KB := Lib.hid (MKeep.of_below M none hB0)
  have hl := fun w => map_nil a b ha hb w
  unfold kv at hl
  have L1 := hl w0
  have L2 := hl w0.drew
  have L3 := hl (w0.alloc (.cells #[.int .i64 0, .int .i64 0, .slice none 0 0] 34)).drew
  have HS0 := Lib.hid hS0
  have HW0 := Lib.hid hw0.symm
  have UP := Lib.hid (fun (w6 : World) (G : Nat) (h : MapS w6 M L (some G) ([] : List P6)) => (show ∃ hh : w6.heap[G]? = some (.map (mEnts 0 ([] : List P6)).toArray (([] : List P6)).length), True from by
    obtain ⟨G', e1, _, hG⟩ := h.e.resolve_left (fun e => by cases e.1)
    cases e1
    exact ⟨hG, trivial⟩))
  have MU := Lib.hid (fun (w6 : World) (G F : Nat) (q : List Nd) (h : MapS w6 M L (some G) ([] : List P6)) (hC : Cloned w6 F ks q) (h1 : L ≤ F) (h2 : F ≠ G) => (show (Instr.mapUpdate 55 (.map (some G)) (.agg #[.int .i64 a, .int .i64 b]) (.agg #[.int .i64 k, .int .i64 n, kidv F 0 ks.len])).run Try.prog w6 = .ok () (setBlock w6 G (.map (mEnts 0 (([] : List P6) ++ [⟨a, b, k, n, kidv F 0 ks.len, ks⟩])).toArray (([] : List P6) ++ [(⟨a, b, k, n, kidv F 0 ks.len, ks⟩ : P6)]).length)) ∧ MapS (setBlock w6 G (.map (mEnts 0 (([] : List P6) ++ [⟨a, b, k, n, kidv F 0 ks.len, ks⟩])).toArray (([] : List P6) ++ [(⟨a, b, k, n, kidv F 0 ks.len, ks⟩ : P6)]).length)) M L (some G) (([] : List P6) ++ [⟨a, b, k, n, kidv F 0 ks.len, ks⟩]) from by
    obtain ⟨hG, -⟩ := UP.out w6 G h
    exact ⟨(map_gone h.i ha hb hn w6 G hG).2 k n (kidv F 0 ks.len) ks, h.more ha hb hn hC h1 h2 hc⟩))
  obtain ⟨X, hX⟩ : ∃ X, W.heap.size = X := ⟨_, rfl⟩
  rw [hX] at x0 x1 x2 x3 x4 lX XC lM0
  have HX := Lib.hid hX
  clear hS hS0 hn ha hb hK hc hw0 r0 hB0 hs0 hl UP
  go_enter Try.func23, Try.ntmps23
  go_upto_region 1 with fail
  rw [HW0.out]
  go_cut [6] from 7 to 16 (fun y wx => y = .bool false ∧ Hid (Below w0.heap.size w0 wx))
  case first =>
    go_region
    all_goals
      (try go_wp2_with fail)
      go_meet
      first
      | exact ⟨rfl, Lib.hid (((Below.refl _ _).drew).alloc (by simp) _)⟩
      | exact ⟨rfl, Lib.hid (((Below.refl _ _).alloc (Nat.le_refl _) _).drew)⟩
      | exact ⟨rfl, Lib.hid (((((Below.refl _ _).alloc (Nat.le_refl _) _).drew.setCell (p := ⟨w0.heap.size, 0, none⟩) (Nat.le_refl _) _).setCell (p := ⟨w0.heap.size, 1, none⟩) (Nat.le_refl _) _).setCell (p := ⟨w0.heap.size, 2, none⟩) (Nat.le_refl _) _)⟩
  case rest =>
    obtain ⟨rfl, HBC⟩ := hcut
    clear L1 L2 L3 x0 x1 x2 x3 x4 m0 mf
    have hSc := HS0.out.below HBC.out
    have hcz := HBC.out.size
    obtain ⟨m0, mf⟩ := row1c hSc.m
    obtain ⟨x0, x1, x2, x3, x4⟩ := XC.out wc (HBC.out.block _ lX)
    have lXc : X < wc.heap.size := by omega
    have KC := Lib.hid (KB.out.trans (MKeep.of_below M none HBC.out))
    have HSc := Lib.hid hSc
    have lMc := hSc.lt
    clear hSc
    have BE := map_isnil wc
    have hmm := @run_makeMap Try.prog
    have mf2 : (wc.alloc (.map #[] 0)).frozen? ⟨M, 0, none⟩ = false := (World.frozen?_of_block (a := ⟨M, 0, none⟩) (Below.heap_alloc _ _ _ lMc)).trans mf
    have m02 : (wc.alloc (.map #[] 0)).cell? ⟨M, 0, none⟩ = some (.map none) := (World.cell?_of_block (a := ⟨M, 0, none⟩) (Below.heap_alloc _ _ _ lMc)).trans m0
    have hu1 := HSc.out.make (by omega)
    obtain ⟨u1, he1⟩ : ∃ u1, (wc.alloc (.map #[] 0)).setCell ⟨M, 0, none⟩ (.map (some wc.heap.size)) = u1 := ⟨_, rfl⟩
    rw [he1] at hu1
    have hx1 : u1.heap[X]? = wc.heap[X]? := by rw [← he1, heap_setCell_other _ ⟨M, 0, none⟩ _ _ (show X ≠ M by omega)]; exact Below.heap_alloc _ _ _ lXc
    have hz1 : wc.heap.size < u1.heap.size := by rw [← he1]; simp
    have ho1 : ∀ x, x < wc.heap.size → x ≠ M → u1.heap[x]? = wc.heap[x]? := fun x hx hxM => by rw [← he1, heap_setCell_other _ ⟨M, 0, none⟩ _ _ hxM]; exact Below.heap_alloc _ _ _ hx
    have hk1 : MKeep wc u1 M none := ⟨by omega, fun x hx h1 _ => ho1 x hx h1, fun H h1 h2 h3 => by rw [← he1]; exact ((Below.refl _ _).alloc h3 _).setCell (p := ⟨M, 0, none⟩) h1 _⟩
    have KU := Lib.hid (KC.out.trans hk1)
    obtain ⟨G, hG⟩ : ∃ G, wc.heap.size = G := ⟨_, rfl⟩
    rw [hG] at he1
    have HE1 := Lib.hid he1
    have HG := Lib.hid (show W.heap.size ≤ G by have := HX.out; omega)
    clear hk1 he1
    go_upto_region 6 with fail
    rw [HE1.out]
    rw [hG] at hu1
    have hgX : G ≠ X := by omega
    have HU1 := Lib.hid hu1
    obtain ⟨m1, mf1⟩ := row1c hu1.m
    obtain ⟨z0, z1, z2, z3, z4⟩ := XC.out u1 (hx1.trans (HBC.out.block _ lX))
    have hCu := CL.out u1.drew (show W.heap.size ≤ u1.heap.size from (KU.out).z) (fun x hx hxM => (KU.out).o x hx hxM (fun e => by cases e))
    have HC := Lib.hid hCu
    have lu : X < u1.heap.size := by have := (KU.out).z; have := HX.out; omega
    have lMu := hu1.lt
    clear x0 x1 x2 x3 x4 m0 mf hu1 hCu m02 mf2
    go_region_with (go_at_call 26; go_loud (with_reducible refine HC.out.mono ?_; rintro e w6 ⟨F, q, ja, jc, rfl, hjv, hF, hge, hB6⟩; have hD := ((Below.refl u1.heap.size u1).drew); replace hB6 := hD.trans (hB6.mono hD.size); replace hge := Nat.le_trans hD.size hge; clear hD; have hS6 := HU1.out.below hB6; obtain ⟨MU1, MU2⟩ := MU.out w6 G F q hS6 hF (by omega) (by omega); rw [hjv] at MU1; obtain ⟨k0, k1, k2, k3, k4⟩ := XC.out w6 ((hB6.block _ lu).trans (hx1.trans (HBC.out.block _ lX))); obtain ⟨n0, nf⟩ := row1c hS6.m; obtain ⟨w7, hw7⟩ : ∃ w7, setBlock w6 G (.map (mEnts 0 (([] : List P6) ++ [⟨a, b, k, n, kidv F 0 ks.len, ks⟩])).toArray (([] : List P6) ++ [(⟨a, b, k, n, kidv F 0 ks.len, ks⟩ : P6)]).length) = w7 := ⟨_, rfl⟩; rw [← hjv, hw7] at MU1; rw [hw7] at MU2; rw [hjv] at MU1; have E1 := Lib.hid MU2; have E2 := Lib.hid (show MKeep w6 w7 M (some G) by rw [← hw7]; exact mkeep_set); have E3 := Lib.hid hB6; clear hw7 MU2 hS6 hF hge hB6 hjv))
    all_goals
      go_wp2_with fail
      go_ret
      refine ⟨rfl, ⟨_, G, E1.out, HG.out⟩, ?_⟩
      exact ⟨Nat.le_trans KU.out.z (Nat.le_trans E3.out.size E2.out.z), fun x hx h1 _ => (E2.out.o x (by have := KU.out.z; have := E3.out.size; omega) h1 (fun e => by have := Option.some.inj e; have := HG.out; omega)).trans ((E3.out.block x (by have := KU.out.z; omega)).trans (KU.out.o x hx h1 (fun e => by cases e))), fun H h1 h2 h3 => (KU.out.b H h1 (fun G e => by cases e) h3).trans (((E3.out).mono (by have := KU.out.z; omega)).trans (E2.out.b H h1 (fun G' e => by cases e; have := HG.out; omega) (by have := KU.out.z; have := E3.out.size; omega)))⟩
end Go.Proofs.Ytmbcfijhlpeddaa
/- wmap: Put, Get, Len. -/
namespace Go.Proofs.Ytmbcfijhlpeddaa
open Go.ChangeShapes Go.WideShapes Go.ChangeAt Go.RowKit
set_option linter.unusedVariables false
open Go.WideMaps Go.MapKept Go.WideElems Go.ChangeMaps
set_option linter.unusedSimpArgs false
attribute [local go_sem ↓] Go.wp_at_zero Go.wp_at_succ
/-- put, whatever is known. -/
theorem w_put {L : Nat} (M : Nat) (g : Option Nat) (vs : List P6) (a b k n : Int) (v : Value) (ks : Fo) (W : World) (hS : MapS W M L g vs) (hLW : L ≤ W.heap.size) (ha : -9223372036854775808 ≤ a ∧ a ≤ 9223372036854775807) (hb : -9223372036854775808 ≤ b ∧ b ≤ 9223372036854775807) (hK : KidsS W (fun x => x < W.heap.size ∧ x ≠ M) v ks) (hc : ks.cnt ≤ 1048576) :
    Calls Try.prog 23 #[.pointer (some ⟨M, 0, none⟩), .agg #[.int .i64 a, .int .i64 b, .int .i64 k, .int .i64 n, v]] W fun e w' => ∃ fresh vs' g', e = .returned (.bool fresh) ∧ PutR vs vs' a b k n ks fresh ∧ MapS w' M L g' vs' ∧ (∀ G, g' = some G → g = some G ∨ W.heap.size ≤ G) ∧ (∀ G, g = some G → g' = some G) ∧ MKeep W w' M g := by
  by_cases hh : hasK vs a b
  · obtain ⟨p0, hp, ea, eb⟩ := hh
    refine (put_there M g vs p0 a b k n v W hS hp ea eb hK.form').mono ?_
    rintro e w' ⟨rfl, hb'⟩
    exact ⟨false, vs, g, rfl, .inl ⟨rfl, rfl, p0, hp, ea, eb⟩, hS.below hb', fun G e => .inl e, fun G e => e, MKeep.of_below M g hb'⟩
  · cases g with
    | some G =>
      refine (put_gone M G vs a b k n v ks W hS hLW hh ha hb hK hc).mono ?_
      rintro e w' ⟨rfl, ⟨v', g', h1, rfl⟩, h2⟩
      exact ⟨true, _, some g', rfl, .inr ⟨rfl, hh, v', rfl⟩, h1, fun G e => .inl e, fun G e => e, h2⟩
    | none =>
      obtain ⟨_, hv⟩ := hS.e.resolve_right (fun ⟨G, e, _⟩ => by cases e)
      subst hv
      refine (put_first M a b k n v ks W hS hLW hh ha hb hK hc).mono ?_
      rintro e w' ⟨rfl, ⟨v', g', h1, h3⟩, h2⟩
      exact ⟨true, _, some g', rfl, .inr ⟨rfl, hh, v', rfl⟩, h1, fun G e => .inr (by cases e; exact h3), (fun G e => by cases e), h2⟩
/-- What a look tells. -/
def LookR (vs : List P6) (a b k n : Int) (ks : Fo) (ok : Bool) : Prop := (ok = true ∧ ∃ p ∈ vs, p.a = a ∧ p.b = b ∧ k = p.k ∧ n = p.n ∧ ks = p.ks) ∨ (ok = false ∧ ¬ hasK vs a b ∧ k = 0 ∧ n = 0 ∧ ks = .nil)
theorem look {M L : Nat} {g : Option Nat} {vs : List P6} {W : World} (hS : MapS W M L g vs) (a b : Int) (ha : -9223372036854775808 ≤ a ∧ a ≤ 9223372036854775807) (hb : -9223372036854775808 ≤ b ∧ b ≤ 9223372036854775807) :
    ∃ k n sp sm sc ks ok, (∀ w', Below W.heap.size W w' → (Instr.lookup 55 (.map g) (.agg #[.int .i64 a, .int .i64 b]) true).run Try.prog w' = .ok (.tuple #[.agg #[.int .i64 k, .int .i64 n, .slice sp sm sc], .bool ok]) w') ∧ Kids W W.heap.size (.slice sp sm sc) ks ∧ ks.cnt ≤ 1048576 ∧ LookR vs a b k n ks ok := by
  by_cases hh : hasK vs a b
  · obtain ⟨p0, hp, rfl, rfl⟩ := hh
    obtain ⟨G, rfl, hGM, hG⟩ := hS.e.resolve_left (fun e => by rw [e.2] at hp; cases hp)
    have hlt : G < W.heap.size := by
      by_cases hl : G < W.heap.size
      · exact hl
      · rw [Array.getElem?_eq_none (by omega)] at hG; cases hG
    have hcm := hS.k _ hp
    have hkk := hcm.kids
    obtain ⟨F, q, hpv, _, _, _, hc⟩ := hcm
    obtain ⟨ja, jc, hj⟩ := kidv_form F 0 p0.ks.len
    rw [hj] at hpv
    rw [hpv] at hkk
    refine ⟨p0.k, p0.n, ja, _, jc, p0.ks, true, fun w' hb' => ?_, hkk, hc, .inl ⟨rfl, p0, hp, rfl, rfl, rfl, rfl, rfl⟩⟩
    have := map_there hS.i hS.d hp w' G ((hb'.block G hlt).trans hG)
    rw [hpv] at this
    exact this
  · cases g with
    | none =>
      refine ⟨0, 0, none, 0, 0, .nil, false, fun w' hb' => map_nil a b ha hb w', Kids.nought _ _, by simp [Fo.cnt], .inr ⟨rfl, hh, rfl, rfl, rfl⟩⟩
    | some G =>
      obtain ⟨G', e1, hGM, hG⟩ := hS.e.resolve_left (fun e => by cases e.1)
      cases e1
      have hlt : G < W.heap.size := by
        by_cases hl : G < W.heap.size
        · exact hl
        · rw [Array.getElem?_eq_none (by omega)] at hG; cases hG
      exact ⟨0, 0, none, 0, 0, .nil, false, fun w' hb' => (map_gone hS.i ha hb hh w' G ((hb'.block G hlt).trans hG)).1, Kids.nought _ _, by simp [Fo.cnt], .inr ⟨rfl, hh, rfl, rfl, rfl⟩⟩
set_option maxRecDepth 100000 in
set_option maxHeartbeats 8000000 in
theorem w_Put {L : Nat} (M : Nat) (g : Option Nat) (vs : List P6) (a b k n : Int) (v : Value) (ks : Fo) (W : World) (hS : MapS W M L g vs) (hLW : L ≤ W.heap.size) (wa : -9223372036854775808 ≤ a ∧ a ≤ 9223372036854775807) (wb : -9223372036854775808 ≤ b ∧ b ≤ 9223372036854775807) (wk : -9223372036854775808 ≤ k ∧ k ≤ 9223372036854775807) (wn : -9223372036854775808 ≤ n ∧ n ≤ 9223372036854775807) (wf : ks.wf) (hK : KidsS W (fun x => x < W.heap.size ∧ x ≠ M) v ks) (hc : ks.cnt ≤ 1048576) :
    Calls Try.prog 9 #[.pointer (some ⟨M, 0, none⟩), .agg #[.int .i64 a, .int .i64 b, .int .i64 k, .int .i64 n, v]] W fun e w' => ∃ fresh vs' g', e = .returned (.tuple #[.bool fresh, .int .i64 (fori a b n (chkd k n ks))]) ∧ ((fori a b n (chkd k n ks) ≠ 0 ∧ fresh = false ∧ vs' = vs) ∨ (fori a b n (chkd k n ks) = 0 ∧ PutR vs vs' a b k n ks fresh)) ∧ MapS w' M L g' vs' ∧ (∀ G, g' = some G → g = some G ∨ W.heap.size ≤ G) ∧ (∀ G, g = some G → g' = some G) ∧ MKeep W w' M g := by
  obtain ⟨vp, vm, vc, rfl⟩ := hK.form'
  obtain ⟨w0, hw0, r0, hB0, hs0⟩ := box5 W a b k n (.slice vp vm vc) 36
  have CH := e_check ks (.slice vp vm vc) a b k n W.heap.size w0 hc ((hK.to (fun x hx => hx.1)).below (Nat.le_refl _) hB0) hB0.size wa wk wn wf
  have PU := Lib.hid (fun w1 (h1 : Below w0.heap.size w0 w1) => w_put M g vs a b k n (.slice vp vm vc) ks w1 ((hS.below hB0).below h1) (by have := hB0.size; have := h1.size; omega) wa wb (hK.carry (fun x hx => ⟨⟨by have := hB0.size; have := h1.size; omega, hx.2⟩, (h1.block x (by have := hB0.size; omega)).trans (hB0.block x hx.1)⟩)) hc)
  have KB := Lib.hid (fun w1 (h1 : Below w0.heap.size w0 w1) => (show MKeep W w1 M g ∧ MapS w1 M L g vs from ⟨(MKeep.of_below M g hB0).trans (MKeep.of_below M g h1), (hS.below hB0).below h1⟩))
  have XC := Lib.hid (fun (u : World) (h : Below w0.heap.size w0 u) => cells5 ((h.block W.heap.size (by omega)).trans r0))
  obtain ⟨x0, x1, x2, x3, x4⟩ := cells5 r0
  have HW0 := Lib.hid hw0.symm
  have hz0 := hB0.size
  generalize fori a b n (chkd k n ks) = z at *
  obtain ⟨X, hX⟩ : ∃ X, W.heap.size = X := ⟨_, rfl⟩
  rw [hX] at x0 x1 x2 x3 x4 XC hz0
  have HX := Lib.hid hX
  clear hS hK hc hw0 r0 hB0 hs0 wa wb wk wn wf
  by_cases hz : z = 0
  · have d1 : (z != 0) = false := by simp [hz]
    go_enter Try.func9, Try.ntmps9
    go_upto_region 1 with fail
    rw [HW0.out]
    go_wp2_with fail
    refine CH.mono ?_
    rintro e w1 ⟨rfl, hb1⟩
    have H1 := Lib.hid hb1
    have P1 := PU.out w1 hb1
    clear hb1 x0 x1 x2 x3 x4
    obtain ⟨x0, x1, x2, x3, x4⟩ := XC.out w1 H1.out
    go_wp2_with fail
    refine P1.mono ?_
    rintro e w2 ⟨fresh, vs', g', rfl, h2, h3, h4, h5, h6⟩
    have E2 := Lib.hid (⟨h2, h3, h4, h5, h6⟩ : PutR vs vs' a b k n ks fresh ∧ MapS w2 M L g' vs' ∧ (∀ G, g' = some G → g = some G ∨ w1.heap.size ≤ G) ∧ (∀ G, g = some G → g' = some G) ∧ MKeep w1 w2 M g)
    clear h2 h3 h4 h5 h6 P1
    go_wp2_with fail
    go_ret2
    obtain ⟨h2, h3, h4, h5, h6⟩ := E2.out
    exact ⟨fresh, vs', g', by rw [hz]; rfl, .inr ⟨hz, h2⟩, h3, fun G e => (h4 G e).imp id (fun h => by have := H1.out.size; have := HX.out; omega), h5, (KB.out w1 H1.out).1.trans h6⟩
  · have d1 : (z != 0) = true := by simp [hz]
    go_enter Try.func9, Try.ntmps9
    go_upto_region 1 with fail
    rw [HW0.out]
    go_wp2_with fail
    refine CH.mono ?_
    rintro e w1 ⟨rfl, hb1⟩
    have H1 := Lib.hid hb1
    clear hb1 x0 x1 x2 x3 x4
    go_wp2_with fail
    go_ret2
    exact ⟨false, vs, g, rfl, .inl ⟨hz, rfl, rfl⟩, (KB.out w1 H1.out).2, fun G e => .inl e, fun G e => e, (KB.out w1 H1.out).1⟩
end Go.Proofs.Ytmbcfijhlpeddaa
/- wmap: Get, Len; what is told of no map. -/
namespace Go.Proofs.Ytmbcfijhlpeddaa
open Go.ChangeShapes Go.WideShapes Go.ChangeAt Go.RowKit
set_option linter.unusedVariables false
open Go.WideMaps Go.MapKept Go.WideElems Go.ChangeMaps
set_option linter.unusedSimpArgs false
attribute [local go_sem ↓] Go.wp_at_zero Go.wp_at_succ
theorem res_ct {P : Program} {fn : Func} {p a : Tmp} {ty : TypeId} (h : fn.results = #[.cell p ty, .tmp a]) (tmps : Array Value) (w : World) (g : Nat) (t : TypeId) (cs : Array Value) (fr : Nat × Nat) (d : TypeDesc) (x : Value)
    (hp : tmps.getD p undef = .pointer (some ⟨g, 0, none⟩)) (ha : tmps.getD a undef = x) (hg : w.heap[g]? = some (.cells cs t fr))
    (hu : P.underlying ty = some d) (hd : (match d with | .struct _ | .array _ _ => true | _ => false) = true) (hi : (P.info? ty).map (·.size) = some cs.size) :
    (results fn tmps).run P w = .ok (.tuple #[.agg cs, x]) w := by
  have e : tmps[p]?.getD undef = .pointer (some ⟨g, 0, none⟩) := by simpa using hp
  have ea : tmps[a]?.getD undef = x := by simpa using ha
  simp [results, h, e, ea, asAddr, run_loadVar_row w g t ty cs fr d hg hu hd hi]
/-- A struct of three cells stored whole. -/
def u3 (w : World) (b : Nat) (x y z : Value) : World := ((w.setCell ⟨b, 0, none⟩ x).setCell ⟨b, 1, none⟩ y).setCell ⟨b, 2, none⟩ z
theorem u3_at {w : World} {b : Nat} {x y z x0 y0 z0 : Value} {T : TypeId} (h : w.heap[b]? = some (.cells #[x0, y0, z0] T (0, 0))) : (u3 w b x y z).heap[b]? = some (.cells #[x, y, z] T (0, 0)) := by
  unfold u3; rw [bset (bset (bset h _) _) _]; rfl
theorem u3_below {w : World} {b H : Nat} (x y z : Value) (h : H ≤ b) : Below H w (u3 w b x y z) := (((Below.refl _ _).setCell h _).setCell h _).setCell h _
theorem u3_other {w : World} {b i : Nat} (x y z : Value) (h : i ≠ b) : (u3 w b x y z).heap[i]? = w.heap[i]? := by
  unfold u3; rw [heap_setCell_other _ ⟨b, 2, none⟩ i _ h, heap_setCell_other _ ⟨b, 1, none⟩ i _ h, heap_setCell_other _ ⟨b, 0, none⟩ i _ h]
theorem u3_size (w : World) (b : Nat) (x y z : Value) : (u3 w b x y z).heap.size = w.heap.size := by unfold u3; simp
theorem box2z (W : World) (a b : Int) (T T' : TypeId) : ∃ w0 : World, w0 = (W.alloc (.cells #[.int .i64 a, .int .i64 b] T)).alloc (.cells #[.int .i64 0, .int .i64 0, .slice none 0 0] T') ∧ w0.cell? ⟨W.heap.size, 0, none⟩ = some (.int .i64 a) ∧ w0.cell? ⟨W.heap.size, 1, none⟩ = some (.int .i64 b) ∧ w0.heap[W.heap.size + 1]? = some (.cells #[.int .i64 0, .int .i64 0, .slice none 0 0] T' (0, 0)) ∧ Below W.heap.size W w0 ∧ w0.heap.size = W.heap.size + 2 := by
  have h1 := heap_alloc_new W (.cells #[.int .i64 a, .int .i64 b] T)
  have h2 := heap_alloc_new (W.alloc (.cells #[.int .i64 a, .int .i64 b] T)) (.cells #[.int .i64 0, .int .i64 0, .slice none 0 0] T')
  simp only [World.size_alloc] at h2
  have h3 := (Below.heap_alloc (W.alloc (.cells #[.int .i64 a, .int .i64 b] T)) (.cells #[.int .i64 0, .int .i64 0, .slice none 0 0] T') W.heap.size (by simp)).trans h1
  exact ⟨_, rfl, by rw [cell_of_row _ _ _ _ _ _ h3]; rfl, by rw [cell_of_row _ _ _ _ _ _ h3]; rfl, h2, ((Below.refl _ _).alloc (Nat.le_refl _) _).alloc (by simp) _, by simp⟩
set_option maxRecDepth 100000 in
set_option maxHeartbeats 8000000 in
theorem w_Len {L : Nat} (M : Nat) (g : Option Nat) (vs : List P6) (W : World) (hS : MapS W M L g vs) :
    Calls Try.prog 12 #[.pointer (some ⟨M, 0, none⟩)] W fun e w' => e = .returned (.int .i64 (vs.length : Nat)) ∧ W = w' := by
  obtain ⟨m0, mf⟩ := row1c hS.m
  rcases hS.e with ⟨rfl, rfl⟩ | ⟨G, rfl, hGM, hG⟩
  · clear hS
    go_enter Try.func12, Try.ntmps12
    go_wp2_with fail
    go_ret
    exact ⟨rfl, rfl⟩
  · have LM : (Builtin.len_ #[55] 3 #[.map (some G)]).run Try.prog W = .ok (.int .i64 (vs.length : Nat)) W := by
      have := run_len_map (P := Try.prog) (w := W) 55 3 G _ _ (by kernel_rfl) hG
      rw [this]
      simp [goInt, mEnts_len]
    clear hS
    go_enter Try.func12, Try.ntmps12
    go_wp2_with fail
    go_ret
    exact ⟨rfl, rfl⟩
set_option maxRecDepth 100000 in
set_option maxHeartbeats 8000000 in
theorem w_Get {L : Nat} (M : Nat) (g : Option Nat) (vs : List P6) (a b : Int) (W : World) (hS : MapS W M L g vs) (wa : -9223372036854775808 ≤ a ∧ a ≤ 9223372036854775807) (wb : -9223372036854775808 ≤ b ∧ b ≤ 9223372036854775807) :
    Calls Try.prog 13 #[.pointer (some ⟨M, 0, none⟩), .agg #[.int .i64 a, .int .i64 b]] W fun e w' => ∃ k n ja jm jc ks ok, e = .returned (.tuple #[.agg #[.int .i64 k, .int .i64 n, .slice ja jm jc], .bool ok]) ∧ Kids w' w'.heap.size (.slice ja jm jc) ks ∧ LookR vs a b k n ks ok ∧ Below W.heap.size W w' := by
  obtain ⟨w0, hw0, x0, x1, r0, hB0, hs0⟩ := box2z W a b 24 34
  obtain ⟨k, n, sp, sm, sc, ks, ok, LK, hKK, hcc, hLR⟩ := look hS a b wa wb
  have hS0 := hS.below hB0
  have L1 := LK w0 hB0
  have L2 := LK w0.drew hB0.drew
  have L3 := LK (w0.alloc (.cells #[.int .i64 0, .int .i64 0, .slice none 0 0] 34)).drew ((hB0.alloc hB0.size _).drew)
  have CL := Lib.hid (fun u (hu : Below w0.heap.size w0 u) => (show Calls Try.prog 26 #[.agg #[.int .i64 k, .int .i64 n, .slice sp sm sc]] u fun x w' => ∃ F q ja jc, x = .returned (.agg #[.int .i64 k, .int .i64 n, .slice ja ks.len jc]) ∧ kidv F 0 ks.len = .slice ja ks.len jc ∧ Cloned w' F ks q ∧ u.heap.size ≤ F ∧ Below w0.heap.size w0 w' from by
    refine (desc_clone k n (.slice sp sm sc) ks W.heap.size u ((hKK.below (Nat.le_refl _) hB0).carry (hu.mono hB0.size)) (by have := hB0.size; have := hu.size; omega) hcc).mono ?_
    rintro x w' ⟨F, q, rfl, h2, h3, h4⟩
    obtain ⟨ja, jc, hjv⟩ := kidv_form F 0 ks.len
    exact ⟨F, q, ja, jc, by rw [hjv], hjv, h2, h3, hu.trans (h4.mono hu.size)⟩))
  obtain ⟨m0, mf⟩ := row1c hS0.m
  have lM := hS0.lt
  have lX : W.heap.size < w0.heap.size := by omega
  have lR : W.heap.size + 1 < w0.heap.size := by omega
  have RR := Lib.hid (fun (u : World) (h : Below w0.heap.size w0 u) => (h.block _ lR).trans r0)
  have HBW := Lib.hid (fun (u : World) (h : Below w0.heap.size w0 u) => hB0.trans (h.mono hB0.size))
  have HLR := Lib.hid hLR
  have HC := Lib.hid hcc
  have HW0 := Lib.hid hw0.symm
  have HS0 := Lib.hid hs0
  obtain ⟨X, hX⟩ : ∃ X, W.heap.size = X := ⟨_, rfl⟩
  obtain ⟨R, hR⟩ : ∃ R, X + 1 = R := ⟨_, rfl⟩
  rw [hX] at x0 x1 lX lR RR
  rw [hR] at lR RR
  have HX := Lib.hid hX
  have HR := Lib.hid hR
  clear hS hS0 hw0 r0 hB0 hs0 wa wb LK hKK hLR hcc
  go_enter Try.func13, Try.ntmps13
  go_upto_region 1 with fail
  rw [HW0.out]
  clear hX
  go_upto_region 3 with fail
  go_cut [6, 7] from 11 to 19 (fun y6 y7 wx => y6 = .pointer (some ⟨w0.heap.size, 0, none⟩) ∧ y7 = .bool ok ∧ Hid (wx.heap[w0.heap.size]? = some (.cells #[.int .i64 k, .int .i64 n, .slice sp sm sc] 34 (0, 0))) ∧ Hid (Below w0.heap.size w0 wx) ∧ Hid (w0.heap.size < wx.heap.size))
  case first =>
    go_region
    all_goals
      (try go_wp2_with fail)
      go_meet
      first
      | exact ⟨rfl, rfl, Lib.hid (heap_alloc_new _ _), Lib.hid (((Below.refl _ _).drew).alloc (by simp) _), Lib.hid (by simp)⟩
      | exact ⟨rfl, rfl, Lib.hid (heap_alloc_new _ _), Lib.hid (((Below.refl _ _).alloc (Nat.le_refl _) _).drew), Lib.hid (by simp)⟩
      | exact ⟨rfl, rfl, Lib.hid (u3_at (w := (w0.alloc _).drew) (heap_alloc_new _ _)), Lib.hid (((((Below.refl _ _).alloc (Nat.le_refl _) _).drew.setCell (p := ⟨w0.heap.size, 0, none⟩) (Nat.le_refl _) _).setCell (p := ⟨w0.heap.size, 1, none⟩) (Nat.le_refl _) _).setCell (p := ⟨w0.heap.size, 2, none⟩) (Nat.le_refl _) _), Lib.hid (by simp)⟩
  case rest =>
    obtain ⟨rfl, rfl, HD, HBC, HZC⟩ := hcut
    clear L1 L2 L3 x0 x1 m0 mf
    obtain ⟨d0, d1, d2, -, -, -⟩ := row_cells3 HD.out
    have C1 := CL.out wc HBC.out
    obtain ⟨D, hD⟩ : ∃ D, w0.heap.size = D := ⟨_, rfl⟩
    rw [hD] at d0 d1 d2 ⊢
    clear hD
    go_wp2_with fail
    refine C1.mono ?_
    rintro e w6 ⟨F, q, ja, jc, rfl, hjv, hF, hge, hb6⟩
    have rR := RR.out w6 hb6
    obtain ⟨y0, y1, y2, f0, f1, f2⟩ := row_cells3 rR
    have HZ := Lib.hid (u3_at rR (x := .int .i64 k) (y := .int .i64 n) (z := .slice ja ks.len jc))
    have HK := Lib.hid (show Kids (u3 w6 R (.int .i64 k) (.int .i64 n) (.slice ja ks.len jc)) (u3 w6 R (.int .i64 k) (.int .i64 n) (.slice ja ks.len jc)).heap.size (.slice ja ks.len jc) ks from by
      have hFR : F ≠ R := by have := HBC.out.size; omega
      have := hF.below (w' := u3 w6 R (.int .i64 k) (.int .i64 n) (.slice ja ks.len jc)) (u3_other _ _ _ hFR) (by rw [u3_size]; exact Nat.le_refl _)
      have h := this.kids this.blk HC.out
      rw [hjv] at h
      exact h)
    have HB := Lib.hid (show Below W.heap.size W (u3 w6 R (.int .i64 k) (.int .i64 n) (.slice ja ks.len jc)) from (HBW.out _ hb6).trans (u3_below _ _ _ (by have := HX.out; have := HR.out; omega)))
    obtain ⟨wn, hwn⟩ : ∃ wn, u3 w6 R (.int .i64 k) (.int .i64 n) (.slice ja ks.len jc) = wn := ⟨_, rfl⟩
    rw [hwn] at HZ HK HB
    simp only [u3] at hwn
    have HWN := Lib.hid hwn
    clear hwn rR hF hge hb6 hjv C1 d0 d1 d2
    go_wp2_with fail
    rw [HWN.out]
    refine bodyPost_ret (res_ct (p := 4) (a := 5) (ty := 34) rfl _ _ _ 34 #[.int .i64 k, .int .i64 n, .slice ja ks.len jc] (0, 0) _ (.bool ok) rfl rfl HZ.out Try.underlying34 rfl (by kernel_rfl)) rfl ?_
    exact ⟨k, n, ja, _, jc, ks, ok, rfl, HK.out, HLR.out, HB.out⟩
end Go.Proofs.Ytmbcfijhlpeddaa
/- The page's example of layer 26; what is told of no map. -/
namespace Go.Proofs.Ytmbcfijhlpeddaa
open Go.ChangeShapes Go.WideShapes Go.ChangeAt Go.RowKit
set_option linter.unusedVariables false
set_option linter.unusedSimpArgs false
attribute [local go_sem ↓] Go.wp_at_zero Go.wp_at_succ
theorem KidsS.nought' (w : World) (S : Nat → Prop) : KidsS w S (.slice none 0 0) .nil := ⟨none, 0, rfl, Nat.le_refl _, by unfold maxLen; omega, .inl rfl⟩
theorem fo26a : fori 8 0 8 (chkd 1 8 .nil) = 0 := by decide +kernel
theorem fo26b : fori 8 0 8 (chkd 3 8 .nil) = 0 := by decide +kernel
set_option maxRecDepth 100000 in
set_option maxHeartbeats 8000000 in
theorem live26 (W : World) : Calls Try.prog 7 #[] W fun e w' => e = .returned (.bool true) ∧ Below W.heap.size W w' := by
  have NW := wmap_new W
  obtain ⟨M, hM⟩ : ∃ M, W.heap.size = M := ⟨_, rfl⟩
  have HM := Lib.hid hM
  rw [hM] at NW
  have P1 := Lib.hid (fun w (h : MapS w M (M + 1) none []) => by
    have := w_Put M none [] 8 0 1 8 (.slice none 0 0) .nil w h h.lt (by decide) (by decide) (by decide) (by decide) trivial (KidsS.nought' _ _) (by decide)
    rw [fo26a] at this
    exact this)
  have P2 := Lib.hid (fun w g vs (h : MapS w M (M + 1) g vs) => by
    have := w_Put M g vs 8 0 3 8 (.slice none 0 0) .nil w h h.lt (by decide) (by decide) (by decide) (by decide) trivial (KidsS.nought' _ _) (by decide)
    rw [fo26b] at this
    exact this)
  have G3 := Lib.hid (fun w g vs (h : MapS w M (M + 1) g vs) => w_Get M g vs 8 0 w h (by decide) (by decide))
  have L4 := Lib.hid (fun w g vs (h : MapS w M (M + 1) g vs) => w_Len M g vs w h)
  clear hM
  go_enter Try.func7, Try.ntmps7
  go_wp2_with fail
  refine NW.mono ?_
  rintro e w1 ⟨rfl, hs1, hb1⟩
  have Q1 := P1.out w1 hs1
  have B1 := Lib.hid hb1
  clear NW hs1 hb1 P1
  go_wp2_with fail
  refine Q1.mono ?_
  rintro e w2 ⟨fresh, vs2, g2, rfl, hc, hs2, hg2, -, hk2⟩
  obtain ⟨rfl, v', rfl⟩ : fresh = true ∧ ∃ v', vs2 = [⟨8, 0, 1, 8, v', .nil⟩] := by
    rcases hc with ⟨h, _⟩ | ⟨_, ⟨_, _, h⟩ | ⟨h1, _, v', h2⟩⟩
    · exact absurd rfl h
    · obtain ⟨p, hp, _⟩ := h; cases hp
    · exact ⟨h1, v', h2⟩
  have Q2 := P2.out w2 g2 _ hs2
  have K2 := Lib.hid hk2
  have S2 := Lib.hid hg2
  clear Q1 hc hs2 hk2 hg2 P2
  go_wp2_with fail
  refine Q2.mono ?_
  rintro e w3 ⟨fresh, vs3, g3, rfl, hc, hs3, hg3, -, hk3⟩
  obtain ⟨rfl, rfl⟩ : fresh = false ∧ vs3 = [⟨8, 0, 1, 8, v', .nil⟩] := by
    rcases hc with ⟨h, _⟩ | ⟨_, ⟨h1, h2, _⟩ | ⟨_, h, _⟩⟩
    · exact absurd rfl h
    · exact ⟨h1, h2⟩
    · exact absurd ⟨_, List.mem_singleton.2 rfl, rfl, rfl⟩ h
  have Q3 := G3.out w3 g3 _ hs3
  have S3 := Lib.hid hs3
  have K3 := Lib.hid hk3
  clear Q2 hc hs3 hk3 hg3 G3
  go_wp2_with fail
  refine Q3.mono ?_
  rintro e w4 ⟨k, n, ja, jm, jc, ks, ok, rfl, -, hl, hb4⟩
  obtain ⟨rfl, rfl⟩ : ok = true ∧ k = 1 := by
    rcases hl with ⟨h1, p, hp, _, _, h2, _⟩ | ⟨_, h, _⟩
    · rw [List.mem_singleton] at hp
      subst hp
      exact ⟨h1, h2⟩
    · exact absurd ⟨_, List.mem_singleton.2 rfl, rfl, rfl⟩ h
  obtain ⟨w5, hw5⟩ : ∃ w5, w4.alloc (.cells #[.int .i64 1, .int .i64 n, .slice ja jm jc] 34) = w5 := ⟨_, rfl⟩
  have hb5 : Below w4.heap.size w4 w5 := by rw [← hw5]; exact (Below.refl _ _).alloc (Nat.le_refl _) _
  have hn5 := heap_alloc_new w4 (.cells #[.int .i64 1, .int .i64 n, .slice ja jm jc] 34)
  rw [hw5] at hn5
  obtain ⟨d0, d1, d2, -, -, -⟩ := row_cells3 hn5
  have Q5 := L4.out w5 g3 _ ((S3.out.below hb4).below hb5)
  have B5 := Lib.hid (show Below W.heap.size W w5 from by
    have h1 : Below W.heap.size W w1 := by have := B1.out; rw [← HM.out] at this; exact this
    have z1 := h1.size
    have h2 := K2.out.b W.heap.size (by rw [HM.out]; exact Nat.le_refl _) (fun G e => by cases e) z1
    have h3 := K3.out.b W.heap.size (by rw [HM.out]; exact Nat.le_refl _) (fun G e => by rcases S2.out G e with h | h; (cases h); omega) (by have := K2.out.z; omega)
    have z3 := (h1.trans (h2.trans h3)).size
    exact (h1.trans (h2.trans h3)).trans ((hb4.trans (hb5.mono hb4.size)).mono z3))
  have HW5 := Lib.hid hw5
  clear Q3 hl hb4 hb5 hn5 hw5 L4
  obtain ⟨D, hD⟩ : ∃ D, w4.heap.size = D := ⟨_, rfl⟩
  rw [hD] at d0 d1 d2
  go_upto_region 7 with fail
  rw [HW5.out]
  go_wp2_with fail
  refine Q5.mono ?_
  rintro e w6 ⟨rfl, rfl⟩
  go_wp2_with fail
  go_ret
  exact ⟨rfl, B5.out⟩
set_option maxRecDepth 100000 in
theorem nil_Put (a b k n : Int) (vp : Option Addr) (vm vc : Nat) (W : World) : Calls Try.prog 9 #[.pointer none, .agg #[.int .i64 a, .int .i64 b, .int .i64 k, .int .i64 n, .slice vp vm vc]] W fun e w' => e = .returned (.tuple #[.bool false, .int .i64 1]) ∧ Below W.heap.size W w' := by
  have hB : Below W.heap.size W (W.alloc (.cells #[.int .i64 a, .int .i64 b, .int .i64 k, .int .i64 n, .slice vp vm vc] 36)) := (Below.refl _ _).alloc (Nat.le_refl _) _
  have HB := Lib.hid hB
  clear hB
  go_enter Try.func9, Try.ntmps9
  go_wp2_with fail
  go_ret2
  exact ⟨rfl, HB.out⟩
set_option maxRecDepth 100000 in
theorem nil_Merge (v : Value) (W : World) : Calls Try.prog 19 #[.pointer none, v] W fun e w' => e = .returned (.tuple #[.int .i64 0, .int .i64 1]) ∧ W = w' := by
  go_enter Try.func19, Try.ntmps19
  go_wp2_with fail
  go_ret2
  exact ⟨rfl, rfl⟩
set_option maxRecDepth 100000 in
theorem nil_Len (W : World) : Calls Try.prog 12 #[.pointer none] W fun e w' => e = .returned (.int .i64 0) ∧ W = w' := by
  go_enter Try.func12, Try.ntmps12
  go_wp2_with fail
  go_ret
  exact ⟨rfl, rfl⟩
set_option maxRecDepth 100000 in
theorem nil_Entries (W : World) : Calls Try.prog 17 #[.pointer none] W fun e w' => e = .returned (.slice none 0 0) ∧ W = w' := by
  go_enter Try.func17, Try.ntmps17
  go_wp2_with fail
  go_ret
  exact ⟨rfl, rfl⟩
set_option maxRecDepth 100000 in
set_option maxHeartbeats 4000000 in
theorem nil_Get (a b : Int) (W : World) : Calls Try.prog 13 #[.pointer none, .agg #[.int .i64 a, .int .i64 b]] W fun e w' => e = .returned (.tuple #[.agg #[.int .i64 0, .int .i64 0, .slice none 0 0], .bool false]) ∧ Below W.heap.size W w' := by
  obtain ⟨w0, hw0, x0, x1, r0, hB0, hs0⟩ := box2z W a b 24 34
  have HB := Lib.hid hB0
  have HW0 := Lib.hid hw0.symm
  obtain ⟨y0, y1, y2, f0, f1, f2⟩ := row_cells3 r0
  have rz := u3_at r0 (x := .int .i64 0) (y := .int .i64 0) (z := .slice none 0 0)
  have HZ := Lib.hid rz
  have HB2 := Lib.hid (hB0.trans (u3_below (w := w0) (b := W.heap.size + 1) (.int .i64 0) (.int .i64 0) (.slice none 0 0) (show W.heap.size ≤ W.heap.size + 1 by omega)))
  obtain ⟨wn, hwn⟩ : ∃ wn, u3 w0 (W.heap.size + 1) (.int .i64 0) (.int .i64 0) (.slice none 0 0) = wn := ⟨_, rfl⟩
  rw [hwn] at HZ HB2
  simp only [u3] at hwn
  have HWN := Lib.hid hwn
  clear hwn rz r0 hw0 hB0 hs0
  go_enter Try.func13, Try.ntmps13
  go_upto_region 1 with fail
  rw [HW0.out]
  go_wp2_with fail
  rw [HWN.out]
  refine bodyPost_ret (res_ct (p := 4) (a := 5) (ty := 34) rfl _ _ _ 34 #[.int .i64 0, .int .i64 0, .slice none 0 0] (0, 0) _ (.bool false) rfl rfl HZ.out Try.underlying34 rfl (by kernel_rfl)) rfl ?_
  exact ⟨rfl, HB2.out⟩
end Go.Proofs.Ytmbcfijhlpeddaa
/- A range over the map: every entry comes just once, in whatever order; sorted, the order is the same. -/
namespace Go.Proofs.Ytmbcfijhlpeddaa
open Go.ChangeShapes Go.WideShapes Go.ChangeAt Go.RowKit
set_option linter.unusedVariables false
open Go.WideMaps Go.MapKept Go.WideElems Go.ChangeMaps
set_option linter.unusedSimpArgs false
/-- The iterator in block r: these have come. -/
structure MIt (w : World) (r G : Nat) (vs : List P6) (sn : List Nat) : Prop where
  r : w.heap[r]? = some (.mapIter (some G) vs.length sn.toArray vs.length)
  g : w.heap[G]? = some (.map (mEnts 0 vs).toArray vs.length)
  d : sn.Nodup
  l : ∀ j ∈ sn, j < vs.length
theorem mEnts_born {vs : List P6} {x : MapEntry} (h : x ∈ mEnts 0 vs) : ∃ j p, vs[j]? = some p ∧ x = mEnt j p := by
  obtain ⟨i, hi⟩ := List.mem_iff_getElem?.1 h
  rw [mEnts_get] at hi
  obtain ⟨p, hp, rfl⟩ := Option.map_eq_some_iff.1 hi
  exact ⟨i, p, hp, by rw [Nat.zero_add]⟩
theorem mEnts_nodup (vs : List P6) : ((mEnts 0 vs).map (·.born)).Nodup := by
  have : (mEnts 0 vs).map (·.born) = List.range vs.length := by
    apply List.ext_getElem?
    intro i
    rw [List.getElem?_map, mEnts_get]
    by_cases hi : i < vs.length
    · rw [List.getElem?_eq_getElem hi, List.getElem?_range hi]
      simp [mEnt]
    · rw [List.getElem?_eq_none (by omega), List.getElem?_eq_none (by simp; omega)]; rfl
  rw [this]; exact List.nodup_range
theorem MIt.next {w : World} {r G : Nat} {vs : List P6} {sn : List Nat} (h : MIt w r G vs sn) (ty : TypeId) :
    ((∀ j, j < vs.length → j ∈ sn) ∧ (Instr.next (.pointer (some ⟨r, 0, none⟩)) false ty).run Try.prog w = .ok (.tuple #[.bool false]) w) ∨
    ∃ j p w', vs[j]? = some p ∧ j ∉ sn ∧ (Instr.next (.pointer (some ⟨r, 0, none⟩)) false ty).run Try.prog w = .ok (.tuple #[.bool true, .agg #[.int .i64 p.a, .int .i64 p.b], .agg #[.int .i64 p.k, .int .i64 p.n, p.v]]) w' ∧ MIt w' r G vs (sn ++ [j]) ∧ But w w' r ∧ w'.heap.size = w.heap.size ∧
      (Instr.entry (.pointer (some ⟨r, 0, none⟩))).run Try.prog w' = .ok (.tuple #[.agg #[.int .i64 p.a, .int .i64 p.b], .agg #[.int .i64 p.k, .int .i64 p.n, p.v]]) w' := by
  have hold : ∀ x ∈ (mEnts 0 vs).toArray.toList, x.born < vs.length := fun x hx => by
    obtain ⟨j, p, hp, rfl⟩ := mEnts_born (show x ∈ mEnts 0 vs from hx)
    exact (List.getElem?_eq_some_iff.1 hp).1
  have hne : r ≠ G := fun e => by have := h.r; rw [e, h.g] at this; cases this
  rcases run_next_at (P := Try.prog) w ty r G vs.length vs.length sn.toArray (mEnts 0 vs).toArray vs.length h.r h.g hold (Nat.le_refl _) with ⟨h0, hrun⟩ | ⟨e, he, w1, hal, hrun⟩
  · refine .inl ⟨fun j hj => ?_, hrun⟩
    obtain ⟨p, hp⟩ : ∃ p, vs[j]? = some p := ⟨vs[j], List.getElem?_eq_getElem hj⟩
    have hm : mEnt j p ∈ mEnts 0 vs := List.mem_of_getElem? (i := j) (by rw [mEnts_get, hp, Nat.zero_add]; rfl)
    by_cases hc : j ∈ sn
    · exact hc
    · have : mEnt j p ∈ leftOf (mEnts 0 vs).toArray sn.toArray := by
        unfold leftOf
        rw [Array.mem_filter]
        exact ⟨by simpa using hm, by simp [mEnt, hc]⟩
      have h3 := Array.size_pos_of_mem this
      omega
  · have he2 : e ∈ leftOf (mEnts 0 vs).toArray sn.toArray := by simpa using he
    unfold leftOf at he2
    rw [Array.mem_filter] at he2
    obtain ⟨hm, hs⟩ := he2
    obtain ⟨j, p, hp, rfl⟩ := mEnts_born (show e ∈ mEnts 0 vs by simpa using hm)
    have hj : j ∉ sn := by simpa [mEnt] using hs
    have hw1 : w1.heap = w.heap := by rcases hal with rfl | rfl <;> rfl
    have lr : r < w1.heap.size := by
      rw [hw1]
      by_cases hl : r < w.heap.size
      · exact hl
      · have := h.r; rw [Array.getElem?_eq_none (by omega)] at this; cases this
    have hmi : MIt (setBlock w1 r (.mapIter (some G) vs.length (sn.toArray.push j) vs.length)) r G vs (sn ++ [j]) := by
      refine ⟨?_, ?_, ?_, ?_⟩
      · rw [setBlock_at lr]; simp
      · rw [setBlock_heap (fun e => hne e.symm), hw1]; exact h.g
      · rw [List.nodup_append]
        exact ⟨h.d, by simp, fun a ha b hb e => by simp at hb; subst hb; subst e; exact hj ha⟩
      · intro i hi
        rcases List.mem_append.1 hi with hi | hi
        · exact h.l i hi
        · simp at hi; subst hi; exact (List.getElem?_eq_some_iff.1 hp).1
    have hB1 : Below w.heap.size w w1 := by rcases hal with rfl | rfl; exact Below.refl _ _; exact (Below.refl _ _).drew
    refine .inr ⟨j, p, _, hp, hj, hrun, hmi, ?_, by rw [setBlock_size, hw1], ?_⟩
    · exact ⟨fun k hk hkr => by rw [setBlock_heap hkr, hw1], by rw [setBlock_size, hw1]; exact Nat.le_refl _, fun H h1 h2 => (hB1.mono h2).trans (setBlock_below h1)⟩
    · have := run_entry_at (P := Try.prog) (setBlock w1 r (.mapIter (some G) vs.length (sn.toArray.push j) vs.length)) r G vs.length sn.toArray (mEnts 0 vs).toArray vs.length (mEnt j p) (by rw [setBlock_at lr]; rfl) hmi.g (by simpa using hm) (by simpa using mEnts_nodup vs)
      exact this
theorem MIt.but {w w' : World} {r G : Nat} {vs : List P6} {sn : List Nat} (h : MIt w r G vs sn) (hr : w'.heap[r]? = w.heap[r]?) (hG : w'.heap[G]? = w.heap[G]?) : MIt w' r G vs sn := ⟨hr.trans h.r, hG.trans h.g, h.d, h.l⟩
/-- Those that have come. -/
def came (vs : List P6) (sn : List Nat) : List P6 := sn.filterMap (fun j => vs[j]?)
theorem came_snoc {vs : List P6} {sn : List Nat} {j : Nat} {p : P6} (h : vs[j]? = some p) : came vs (sn ++ [j]) = came vs sn ++ [p] := by
  unfold came; rw [List.filterMap_append]; simp [h]
theorem came_range (vs : List P6) : ∀ n, (List.range n).filterMap (fun j => vs[j]?) = vs.take n
  | 0 => rfl
  | n + 1 => by
    rw [List.range_succ, List.filterMap_append, came_range vs n, List.take_add_one]
    congr 1
theorem came_all {vs : List P6} {sn : List Nat} (hd : sn.Nodup) (hl : ∀ j ∈ sn, j < vs.length) (ha : ∀ j, j < vs.length → j ∈ sn) : (came vs sn).Perm vs := by
  have hp : sn.Perm (List.range vs.length) := by
    rw [List.perm_ext_iff_of_nodup hd List.nodup_range]
    intro a
    rw [List.mem_range]
    exact ⟨hl a, ha a⟩
  have h2 := hp.filterMap (fun j => vs[j]?)
  have h3 : (List.range vs.length).filterMap (fun j => vs[j]?) = vs := by rw [came_range, List.take_length]
  rw [h3] at h2
  exact h2
theorem came_len {vs : List P6} : ∀ {sn : List Nat}, (∀ j ∈ sn, j < vs.length) → (came vs sn).length = sn.length
  | [], _ => rfl
  | j :: sn, h => by
    have h1 := h j (List.mem_cons_self ..)
    unfold came
    rw [List.filterMap_cons, List.getElem?_eq_getElem h1]
    have := came_len (vs := vs) (sn := sn) (fun i hi => h i (List.mem_cons_of_mem _ hi))
    unfold came at this
    simp [this]
theorem ins_perm {α : Type} {lt : α → α → Bool} (x : α) : ∀ l : List α, (Srt.ins lt x l).Perm (x :: l)
  | [] => List.Perm.refl _
  | y :: l => by
    unfold Srt.ins
    split
    · exact List.Perm.refl _
    · exact (List.Perm.cons y (ins_perm x l)).trans (List.Perm.swap x y l)
theorem fold_perm {α : Type} {lt : α → α → Bool} (l : List α) : ∀ o : List α, (l.foldl (fun o x => Srt.ins lt x o) o).Perm (o ++ l) := by
  induction l with
  | nil => intro o; rw [List.append_nil]; exact List.Perm.refl _
  | cons x l ih =>
    intro o
    rw [List.foldl_cons]
    refine (ih _).trans ?_
    refine (List.Perm.append_right l (ins_perm x o)).trans ?_
    exact (List.perm_middle).symm
theorem isort_perm {α : Type} {lt : α → α → Bool} (l : List α) : (Srt.isort lt l).Perm l := by
  have := fold_perm (lt := lt) l []
  rw [List.nil_append] at this
  exact this
/-- In order, and of the same elements, no two of one key: the same. -/
theorem up_eq {α : Type} {lt : α → α → Bool} : ∀ {l m : List α}, Srt.Up lt l → Srt.Up lt m → l.Perm m → (∀ x ∈ l, ∀ y ∈ l, lt x y = false → lt y x = false → x = y) → l = m
  | [], m, _, _, h, _ => (List.Perm.nil_eq h)
  | x :: l, [], _, _, h, _ => by have := h.length_eq; simp at this
  | x :: l, y :: m, h1, h2, h, hk => by
    have a1 := List.pairwise_cons.1 h1
    have a2 := List.pairwise_cons.1 h2
    have hxy : x = y := by
      have hx : x ∈ y :: m := h.subset (List.mem_cons_self ..)
      have hy : y ∈ x :: l := h.symm.subset (List.mem_cons_self ..)
      rcases List.mem_cons.1 hx with e | hx'
      · exact e
      · rcases List.mem_cons.1 hy with e | hy'
        · exact e.symm
        · exact hk x (List.mem_cons_self ..) y hy (a2.1 x hx') (a1.1 y hy')
    subst hxy
    rw [up_eq a1.2 a2.2 (List.Perm.cons_inv h) (fun u hu v hv => hk u (List.mem_cons_of_mem _ hu) v (List.mem_cons_of_mem _ hv))]
theorem sort_came {vs l : List P6} (hK : Keys vs) (hp : l.Perm vs) : sortN (l.map P6.x) = sortN (vs.map P6.x) := by
  have h1 : (sortN (l.map P6.x)).Perm (vs.map P6.x) := (isort_perm _).trans (hp.map _)
  refine up_eq (Srt.isort_up ent_ord _) (Srt.isort_up ent_ord _) (h1.trans (isort_perm _).symm) (fun x hx y hy e1 e2 => ?_)
  have hx' : x ∈ vs.map P6.x := h1.subset hx
  have hy' : y ∈ vs.map P6.x := h1.subset hy
  obtain ⟨p, hp1, rfl⟩ := List.mem_map.1 hx'
  obtain ⟨q, hq1, rfl⟩ := List.mem_map.1 hy'
  obtain ⟨i, hi⟩ := List.mem_iff_getElem?.1 hp1
  obtain ⟨j, hj⟩ := List.mem_iff_getElem?.1 hq1
  unfold ent Srt.klt at e1 e2
  simp only [decide_eq_false_iff_not] at e1 e2
  have := hK i j p q hi hj (by show p.a = q.a; simp only [P6.x] at e1 e2; omega) (by show p.b = q.b; simp only [P6.x] at e1 e2; omega)
  subst this
  rw [hi] at hj
  cases hj
  rfl
end Go.Proofs.Ytmbcfijhlpeddaa
