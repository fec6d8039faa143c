/- conv.Linear, conv.Cyclic. -/
import Derived.Test.YtkijiljipacfjaaConvl
import Derived.Test.YtkijiljipacfjaaStillin
namespace Go.Proofs.Ytkijiljipacfjaa
open Go.ChangeShapes Go.WideShapes Go.ChangeAt Go.RowKit
set_option linter.unusedVariables false
open Go.Shelf
attribute [local go_sem] Oper.semAt_some
theorem acc_put (xs ys : List Int) (N : Nat) (l : List (Nat × Nat)) (i j : Nat) : (tab N (accp xs ys l)).set (i + j) (fm (accp xs ys l (i + j) + fm (xs.getD i 0 * ys.getD j 0))) = tab N (accp xs ys (l ++ [(i, j)])) := by
  apply tab_set
  intro k hk
  rw [accp_snoc]
  dsimp only
  by_cases e : i + j = k
  · rw [if_pos e, if_pos e.symm, e]
  · rw [if_neg e, if_neg (fun h => e h.symm)]
theorem rowAt_kept {W W' : World} {row : Option Nat} {B : Nat} {T : TypeId} {ys : List Int} (h : RowAt W B T ys) (hg : W.grownBy W' row) (hr : ∀ r, row = some r → ∃ o : Obj, W.heap[r]? = some o ∧ o.isCells = false) : RowAt W' B T ys := by
  unfold RowAt
  rw [hg.block B h.lt (fun e => by obtain ⟨o, h1, h2⟩ := hr B e.symm; unfold RowAt at h; rw [h] at h1; cases h1; cases h2)]
  exact h
theorem bx_kept {W W' : World} {row : Option Nat} {B : Nat} {T : TypeId} {v : Value} (h : Bx W B T v) (hg : W.grownBy W' row) (hr : ∀ r, row = some r → ∃ o : Obj, W.heap[r]? = some o ∧ o.isCells = false) : Bx W' B T v := by
  unfold Bx
  rw [hg.block B h.lt (fun e => by obtain ⟨o, h1, h2⟩ := hr B e.symm; unfold Bx at h; rw [h] at h1; cases h1; cases h2)]
  exact h
set_option maxRecDepth 100000 in
set_option maxHeartbeats 2000000 in
theorem conv_linear1 (p q : Option Addr) (n m N c d : Nat) (xs ys : List Int) (W : World) (hr : Row W p n xs) (hr2 : Row W q m ys) (hn : n ≤ 4096) (hm : m ≤ 4096) (n0 : 0 < n) (m0 : 0 < m) (hN : n + m - 1 = N) :
    Calls Try.prog 16 #[.slice p n c, .slice q m d] W (GivesOk W N (linl xs ys)) := by
  have hmk := make_u64 N (by omega)
  have e1 : decide (4096 < (n : Int)) = false := decide_eq_false (by omega)
  have e2 : decide (4096 < (m : Int)) = false := decide_eq_false (by omega)
  have d1 : ((n : Int) == 0) = false := by simp; omega
  have d2 : ((m : Int) == 0) = false := by simp; omega
  have hw0 : IntKind.i64.wrap ((n : Int) + (m : Int)) = (n : Int) + (m : Int) := IntWalk.i64_in _ (by omega)
  have hw00 : IntKind.i64.wrap ((n : Int) + (m : Int) - 1) = (N : Int) := by rw [IntWalk.i64_in _ (by omega)]; omega
  refine (callsIn_wide (n := 6)).1 ?_
  refine callsIn_of_wp_marks Try.func16 rfl trivial ?_ rfl
  simp only [Try.ntmps16, List.size_toArray, List.length_cons, List.length_nil, Nat.reduceAdd, Nat.reduceSub, Array.replicate_succ, Array.replicate_zero, List.push_toArray, List.append_toArray, List.nil_append, List.cons_append]
  gi_wp2
  refine ⟨trivial, (conv_products _ p q n m c d _).mono ?_⟩
  rintro e w1 ⟨rfl, rfl⟩
  gi_wp2
  have hB0 : Below W.heap.size W ((((W.alloc (.cells (Array.replicate N (.int .u64 0)) 35)).alloc (.cells #[.slice (some ⟨W.heap.size, 0, none⟩) N N] 22)).alloc (.cells #[.slice p n c] 22)).alloc (.cells #[.slice q m d] 22)) :=
    ((((Below.refl _ W).alloc (Nat.le_refl _) _).alloc (by simp) _).alloc (by simp; omega) _).alloc (by simp; omega) _
  have hsz : ((((W.alloc (.cells (Array.replicate N (.int .u64 0)) 35)).alloc (.cells #[.slice (some ⟨W.heap.size, 0, none⟩) N N] 22)).alloc (.cells #[.slice p n c] 22)).alloc (.cells #[.slice q m d] 22)).heap.size = W.heap.size + 4 := by simp
  have rR := (((RowAt.made W 35 N).alloc (.cells #[.slice (some ⟨W.heap.size, 0, none⟩) N N] 22)).alloc (.cells #[.slice p n c] 22)).alloc (.cells #[.slice q m d] 22)
  have bL := ((Bx.new (W.alloc (.cells (Array.replicate N (.int .u64 0)) 35)) 22 (.slice (some ⟨W.heap.size, 0, none⟩) N N) _ rfl).alloc (.cells #[.slice p n c] 22)).alloc (.cells #[.slice q m d] 22)
  have bX := (Bx.new ((W.alloc (.cells (Array.replicate N (.int .u64 0)) 35)).alloc (.cells #[.slice (some ⟨W.heap.size, 0, none⟩) N N] 22)) 22 (.slice p n c) _ rfl).alloc (.cells #[.slice q m d] 22)
  have bY := Bx.new (((W.alloc (.cells (Array.replicate N (.int .u64 0)) 35)).alloc (.cells #[.slice (some ⟨W.heap.size, 0, none⟩) N N] 22)).alloc (.cells #[.slice p n c] 22)) 22 (.slice q m d) _ rfl
  simp only [World.size_alloc] at bL bX bY
  rw [tab_rep] at rR
  obtain ⟨W0, hW0⟩ : ∃ W0, ((((W.alloc (.cells (Array.replicate N (.int .u64 0)) 35)).alloc (.cells #[.slice (some ⟨W.heap.size, 0, none⟩) N N] 22)).alloc (.cells #[.slice p n c] 22)).alloc (.cells #[.slice q m d] 22)) = W0 := ⟨_, rfl⟩
  rw [hW0] at hB0 hsz rR bL bX bY ⊢
  clear hW0
  have hbx : ∀ r, p = some r → r.block < W.heap.size := by
    intro r e
    obtain ⟨b, off, e2, hb, _⟩ := hr.cell n0
    rw [e] at e2; cases e2; exact hb
  have hby : ∀ r, q = some r → r.block < W.heap.size := by
    intro r e
    obtain ⟨b, off, e2, hb, _⟩ := hr2.cell m0
    rw [e] at e2; cases e2; exact hb
  have FIN := Lib.hid (show ∀ zs : List (Fin n × Fin m), valp zs = allp m n → tab N (accp xs ys (valp zs)) = linl xs ys by
    intro zs h
    unfold linl
    rw [if_neg (by rw [hr.len, hr2.len]; omega), h, hr.len, hr2.len, hN]
    apply tab_congr
    intro k _
    have := accp_all xs ys k n
    rw [hr2.len] at this
    exact this.symm)
  have FL := Lib.hid (show (linl xs ys).length = N by rw [linl_len xs ys (by rw [hr.len]; omega) (by rw [hr2.len]; omega), hr.len, hr2.len, hN])
  refine wpIn_rangeFunc_ownF rfl (by omega) (gf := 86) (lb := #[.pointer (some ⟨W.heap.size + 1 + 1, 0, none⟩), .pointer (some ⟨W.heap.size + 1 + 1 + 1, 0, none⟩)]) rfl trivial (enters_of Try.func86 (by kernel_rfl) rfl)
    (conv_stops _ (by omega) (W.heap.size + 1 + 1) (W.heap.size + 1 + 1 + 1) W.heap.size n m c d p q xs ys (by omega) (by omega) W0 bX.cell bX.lt bY.cell (hr.below hB0) (hr2.below hB0) hbx hby (by omega) bY.lt)
    kpB_t (kpB_b (w := W0) (by omega) bY.lt) (Below.refl _ _) (fun _ => rfl)
    (fun pre W' => (RowAt W' W.heap.size 35 (tab N (accp xs ys (valp pre))) ∧ Bx W' (W.heap.size + 1) 22 (.slice (some ⟨W.heap.size, 0, none⟩) N N)) ∧ Below W.heap.size W W')
    (fun _ _ _ => False)
    (OwnFrom.and (Own.from (fun s A B row hs hg hr => ⟨rowAt_kept hs.1 hg hr, bx_kept hs.2 hg hr⟩) _) (ownFrom_below (Nat.le_refl _) (by omega)))
    (fun _ _ _ _ _ hs _ _ => hs)
    ⟨⟨rR, bL⟩, hB0⟩
    (fun x => { tmps := #[.slice p n c, .slice q m d, undef, undef, .slice none 0 0, .int .i64 0, .pointer (some ⟨W.heap.size + 1, 0, none⟩), .int .i64 (pI x), .int .u64 (pV xs ys x), .slice p n c, .int .i64 n, .bool false, .bool false, .slice q m d, .int .i64 m, .bool false, .bool false, .slice p n c, .int .i64 n, .bool false, .bool false, .slice q m d, .int .i64 m, .bool false, .bool false, .slice p n c, .int .i64 n, .slice q m d, .int .i64 m, .int .i64 ((n : Int) + (m : Int)), .int .i64 (N : Int), .slice (some ⟨W.heap.size, 0, none⟩) N N, .slice p n c, .slice q m d, .func (.func 86) #[] #[.pointer (some ⟨W.heap.size + 1 + 1, 0, none⟩), .pointer (some ⟨W.heap.size + 1 + 1 + 1, 0, none⟩)], .int .i64 (pI x), .int .u64 (pV xs ys x), undef, undef, undef, undef, undef, undef, undef, undef, undef, undef], defers := [] })
    ?assign ?body ?done ?stop
  case assign =>
    intro l x W' K hK
    dsimp only [encp]
    gi_wp2
    exact hK
  case body =>
    rintro l pre x W' ⟨⟨hR, hL⟩, hB⟩ _
    clear hmk
    have hk : x.1.val + x.2.val < N := by have := x.1.isLt; have := x.2.isLt; omega
    have hpk : pI x = ((x.1.val + x.2.val : Nat) : Int) := by unfold pI; omega
    have hput := acc_put xs ys N (valp pre) x.1.val x.2.val
    rw [← valp_snoc pre x] at hput
    have cl := hR.cell (k := x.1.val + x.2.val) (by rw [tab_len]; exact hk)
    rw [tab_at _ _ _ hk] at cl
    have fl := hR.free (x.1.val + x.2.val)
    have r2 := hR.set (x.1.val + x.2.val) (fm (accp xs ys (valp pre) (x.1.val + x.2.val) + pV xs ys x))
    rw [show fm (accp xs ys (valp pre) (x.1.val + x.2.val) + pV xs ys x) = fm (accp xs ys (valp pre) (x.1.val + x.2.val) + fm (xs.getD x.1.val 0 * ys.getD x.2.val 0)) from rfl, hput] at r2
    obtain ⟨s0, s1⟩ := accp_b xs ys (x.1.val + x.2.val) (valp pre)
    have v0 : 0 ≤ pV xs ys x := fm_lo _
    have v1 : pV xs ys x ≤ 18446744073709551615 := fm_hi' _
    have cL := hL.cell
    have hkk : x.1.val + x.2.val < N := hk
    have hmx : Try.prog.follows .mixedOrders = true := by kernel_rfl
    have hd1 : 1 ≤ 6 - 1 - 1 := by omega
    have R2 := Lib.hid (show RowAt (W'.setCell ⟨W.heap.size, x.1.val + x.2.val, none⟩ (.int .u64 (fm (accp xs ys (valp pre) (x.1.val + x.2.val) + pV xs ys x)))) W.heap.size 35 (tab N (accp xs ys (valp (pre ++ [x])))) from r2)
    rw [hpk]
    clear r2 hput hpk
    generalize accp xs ys (valp pre) (x.1.val + x.2.val) = s at *
    generalize pV xs ys x = v at *
    generalize x.1.val + x.2.val = r at *
    have hm0 : (0 : Int) ≤ (r : Int) := by omega
    have hm1 : (r : Int) < (N : Int) := by omega
    gi_wp2
    refine wpIn_region_still_tail (l := l) 9 (by kernel_rfl) (by kernel_rfl) (by kernel_rfl) ?_
    simp only [List.take_succ_cons, List.take_zero, List.drop_succ_cons, List.drop_zero]
    change wpStill _ _ W'.drew (fun a' => wpListIn _ _ _ _ _ _ a' W'.drew) _ _
    replace cl : W'.drew.cell? ⟨W.heap.size, r, none⟩ = _ := cl
    replace fl : W'.drew.frozen? ⟨W.heap.size, r, none⟩ = _ := fl
    replace cL : W'.drew.cell? ⟨W.heap.size + 1, 0, none⟩ = _ := cL
    have hKO : KeepsOthers W' W'.drew := KeepsOthers.drew _
    have hbd : Below W.heap.size W' W'.drew := (Below.refl _ _).drew
    replace hB := hB.drew
    replace hL : Bx W'.drew _ _ _ := hL
    replace R2 := Lib.hid (show RowAt (W'.drew.setCell _ _) _ _ _ from R2.out)
    have bY2 := Lib.hid (fun v (h : W'.cell? ⟨W.heap.size + 1 + 1 + 1, 0, none⟩ = some v) => (show W'.drew.cell? ⟨W.heap.size + 1 + 1 + 1, 0, none⟩ = some v from h))
    generalize W'.drew = wd at *
    iterate 7 still_step
    still_call ((gold_add s v _ s0 (by omega) v0 v1).mono fun e w' ⟨he, hw⟩ => ⟨he, hw.symm⟩)
    repeat still_step
    refine wpStill_nil ?_
    gi_wp2
    exact ⟨hKO.trans (KeepsOthers.setCell _ _ _), ⟨hbd.setCell (Nat.le_refl _) _, fun v hv => by rw [World.cell?_setCell_far _ _ _ _ (by show W.heap.size ≠ W.heap.size + 1 + 1 + 1; omega)]; exact bY2.out v hv⟩, ⟨R2.out, hL.but (But.set _ _ _ _) (by omega)⟩, hB.setCell (Nat.le_refl _) _⟩
  case done =>
    rintro D zs W' hD hzs ⟨⟨hR, hL⟩, hB⟩ hK
    have cL := hL.cell
    gi_wp2
    refine ⟨by simp, .inl ⟨_, _, rfl, run_takeDeferred hK, ?_⟩⟩
    have hR2 := rowAt_kept hR (grownBy_putObj' _ D (.deferred none)) (fun r e => by cases e; exact ⟨_, hK, rfl⟩)
    rw [FIN.out zs hzs] at hR2
    exact ⟨_, results_tmp2 rfl _ _ _, _, _, rfl, Row.of_at hR2 (linl_wf xs ys) FL.out (by omega), hB.trans (belowK_b (w := W) (Nat.le_refl _) W' D _ _ (by omega) hK rfl rfl)⟩
  case stop =>
    rintro D c pre W' _ _ h _
    exact h.elim
theorem conv_linear (p q : Option Addr) (n m c d : Nat) (xs ys : List Int) (W : World) (hr : Row W p n xs) (hr2 : Row W q m ys) (hn : n ≤ 4096) (hm : m ≤ 4096) :
    Calls Try.prog 16 #[.slice p n c, .slice q m d] W (GivesOk W (linl xs ys).length (linl xs ys)) := by
  by_cases h0 : n = 0 ∨ m = 0
  · have E : linl xs ys = [] := by unfold linl; rw [if_pos (by rw [hr.len, hr2.len]; exact h0)]
    rw [E]
    have G : GivesOk W 0 [] (.returned (.tuple #[.slice none 0 0, .int .i64 0])) W := ⟨none, 0, rfl, ⟨rfl, .inl rfl, (by intro z hz; cases hz), by omega⟩, Below.refl _ _⟩
    have e1 : decide (4096 < (n : Int)) = false := decide_eq_false (by omega)
    have e2 : decide (4096 < (m : Int)) = false := decide_eq_false (by omega)
    clear hr hr2 E
    rcases h0 with rfl | rfl
    · go_enter Try.func16, Try.ntmps16
      go_wp2_with fail
      go_ret2
      exact G
    · by_cases e : n = 0
      · subst e
        go_enter Try.func16, Try.ntmps16
        go_wp2_with fail
        go_ret2
        exact G
      · have d1 : ((n : Int) == 0) = false := by simp; omega
        go_enter Try.func16, Try.ntmps16
        go_wp2_with fail
        go_ret2
        exact G
  · have YL : (linl xs ys).length = n + m - 1 := by rw [linl_len xs ys (by rw [hr.len]; omega) (by rw [hr2.len]; omega), hr.len, hr2.len]
    rw [YL]
    exact conv_linear1 p q n m (n + m - 1) c d xs ys W hr hr2 hn hm (by omega) (by omega) rfl
theorem conv_linearbig (p q : Option Addr) (n m c d : Nat) (W : World) (h : 4096 < n ∨ 4096 < m) :
    Calls Try.prog 16 #[.slice p n c, .slice q m d] W fun e w' => e = .returned (.tuple #[.slice none 0 0, .int .i64 12]) ∧ W = w' := by
  by_cases h1 : 4096 < n
  · have e1 : decide (4096 < (n : Int)) = true := decide_eq_true (by omega)
    go_enter Try.func16, Try.ntmps16
    go_wp2_with fail
    go_ret2
    exact ⟨rfl, rfl⟩
  · have e1 : decide (4096 < (n : Int)) = false := decide_eq_false (by omega)
    have e2 : decide (4096 < (m : Int)) = true := decide_eq_true (by omega)
    go_enter Try.func16, Try.ntmps16
    go_wp2_with fail
    go_ret2
    exact ⟨rfl, rfl⟩
set_option maxRecDepth 100000 in
theorem conv_cyclic (p q : Option Addr) (n c d : Nat) (xs ys : List Int) (W : World) (hr : Row W p n xs) (hr2 : Row W q n ys) (hn : n ≤ 4096) :
    Calls Try.prog 19 #[.slice p n c, .slice q n d] W (GivesOk W n (cycl xs ys)) := by
  have L := Lib.hid (fun w h1 h2 => conv_linear p q n n c d xs ys w h1 h2 hn hn)
  have HX := Lib.hid hr
  have HY := Lib.hid hr2
  have dn : ((n : Int) != (n : Int)) = false := by simp
  by_cases h0 : n = 0
  · subst h0
    have e1 := List.length_eq_zero_iff.1 hr.len
    have e2 := List.length_eq_zero_iff.1 hr2.len
    subst e1; subst e2
    have E : linl [] [] = [] := rfl
    rw [E] at L
    clear hr hr2
    go_enter Try.func19, Try.ntmps19
    go_wp2_with fail
    refine (L.out _ HX.out HY.out).mono ?_
    rintro e w1 ⟨a, k, rfl, h, b1⟩
    go_wp2_with fail
    go_ret2
    exact ⟨none, 0, rfl, ⟨rfl, .inl rfl, (by intro z hz; cases hz), by omega⟩, b1⟩
  · have YL : (linl xs ys).length = n + n - 1 := by rw [linl_len xs ys (by rw [hr.len]; omega) (by rw [hr2.len]; omega), hr.len, hr2.len]
    have WL := Lib.hid (wrap_lin xs ys n hr.len hr2.len (by omega))
    have WR := Lib.hid (fun w a k N (h : Row w a N (linl xs ys)) => conv_wrap a N k n (linl xs ys) w h (by omega) (by omega))
    rw [YL] at L
    obtain ⟨N, hN⟩ : ∃ N, n + n - 1 = N := ⟨_, rfl⟩
    rw [hN] at L
    have d0 : ((N : Int) == 0) = false := by simp; omega
    have hB : Below W.heap.size W W := Below.refl _ _
    clear hr hr2 YL
    go_enter Try.func19, Try.ntmps19
    go_wp2_with fail
    refine (L.out _ HX.out HY.out).mono ?_
    rintro e w1 ⟨a, k, rfl, h, b1⟩
    have HZ := Lib.hid h
    clear h
    have hB := hB.trans (b1.mono hB.size); clear b1
    go_wp2_with fail
    refine (WR.out _ _ _ _ HZ.out).mono ?_
    rintro e w2 ⟨a2, k2, rfl, h, b1⟩
    rw [WL.out] at h
    have hB := hB.trans (b1.mono hB.size); clear b1
    go_wp2_with fail
    go_ret2
    exact ⟨_, _, rfl, h, hB⟩
theorem conv_cyclicno (p q : Option Addr) (n m c d : Nat) (W : World) (h : n ≠ m) :
    Calls Try.prog 19 #[.slice p n c, .slice q m d] W fun e w' => e = .returned (.tuple #[.slice none 0 0, .int .i64 5]) ∧ W = w' := by
  have dn : ((n : Int) != (m : Int)) = true := by simp; omega
  go_enter Try.func19, Try.ntmps19
  go_wp2_with fail
  go_ret2
  exact ⟨rfl, rfl⟩
end Go.Proofs.Ytkijiljipacfjaa
