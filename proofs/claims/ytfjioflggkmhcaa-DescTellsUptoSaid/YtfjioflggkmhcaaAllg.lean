/- package desc's All, for every tree: its iterator, a range over another one that yields on. -/
import Derived.Test.YtfjioflggkmhcaaNodsg
import Derived.Deep.RegionWith
namespace Go.Proofs.Ytfjioflggkmhcaa
open Go.ChangeShapes Go.WideShapes Go.ChangeAt Go.RowKit
set_option linter.unusedVariables false
open Go.Shelf
set_option linter.unusedSimpArgs false
attribute [local go_sem] Oper.semAt_some
/-- A block of cells. -/
def CellsB (V : World) (b : Nat) : Prop := ∃ o, V.heap[b]? = some o ∧ o.isCells = true
theorem cellsB_of_cell {V : World} {a : Addr} {v : Value} (h : V.cell? a = some v) : CellsB V a.block := by
  unfold World.cell? at h
  cases ho : V.heap[a.block]? with
  | none => simp [ho] at h
  | some o => exact ⟨o, ho, by cases o <;> simp_all [Obj.isCells]⟩
theorem Fo.AtS.cells : ∀ {f : Fo} {w : World} {lim b o : Nat} (_ : f.At w lim b o), f.AtS w (CellsB w) b o
  | .nil, _, _, _, _, _ => trivial
  | .cons _ _ ks r, w, lim, b, o, ⟨hb, c0, c1, ⟨a, c, c2, h1, h2, h3⟩, hr⟩ => by
    refine ⟨cellsB_of_cell c0, c0, c1, ⟨a, c, c2, h1, h2, ?_⟩, Fo.AtS.cells hr⟩
    rcases h3 with h3 | ⟨b', o', e, h3⟩
    · exact .inl h3
    · exact .inr ⟨b', o', e, Fo.AtS.cells h3⟩
theorem KidsS.cells {w : World} {lim : Nat} {v : Value} {f : Fo} (h : Kids w lim v f) : KidsS w (CellsB w) v f := by
  obtain ⟨a, c, rfl, h1, h2, h3⟩ := h
  exact ⟨a, c, rfl, h1, h2, h3.imp id (fun ⟨b, o, e, h⟩ => ⟨b, o, e, .cells h⟩)⟩
theorem KidsS.size {w : World} {v : Value} {f : Fo} (h : KidsS w (CellsB w) v f) : Kids w w.heap.size v f := h.to (fun b ⟨o, ho, _⟩ => (Array.getElem?_eq_some_iff.1 ho).1)
/-- It is the next one of all, and its kids lie somewhere. -/
def RelA (all : List Nd) (pre : List NodV) (y : NodV) (V : World) : Prop := (∃ r, pre.map NodV.nd ++ y.nd :: r = all) ∧ KidsS V (CellsB V) (.slice y.a y.m y.c) y.f
theorem relA_new (all : List Nd) (pre : List NodV) (y : NodV) (A C : World) (h : RelA all pre y A) (hb : Below A.heap.size A C) : RelA all pre y C :=
  ⟨h.1, h.2.carry (fun b ⟨o, ho, hc⟩ => by
    have e := hb.block b (Array.getElem?_eq_some_iff.1 ho).1
    exact ⟨⟨o, e.trans ho, hc⟩, e⟩)⟩
theorem relA_put (all : List Nd) (pre : List NodV) (y : NodV) (A : World) (l : Nat) (o o' : Obj) (hl : A.heap[l]? = some o) (ho : o.isCells = false) (h : RelA all pre y A) : RelA all pre y (A.putObj l o') :=
  ⟨h.1, h.2.carry (fun b ⟨x, hx, hc⟩ => by
    have hne : b ≠ l := fun e => by subst e; rw [hl] at hx; cases hx; rw [ho] at hc; cases hc
    have e : (A.putObj l o').heap[b]? = A.heap[b]? := World.putObj_heap_other hne
    exact ⟨⟨x, e.trans hx, hc⟩, e⟩)⟩
theorem relN_new (all : List Nd) (lim : Nat) (pre : List NodV) (x : NodV) (A C : World) (hl : lim ≤ A.heap.size) (h : RelN all lim pre x A) (hb : Below A.heap.size A C) : RelN all lim pre x C := ⟨h.1, h.2.carry (hb.mono hl)⟩
theorem relN_put (all : List Nd) (lim : Nat) (pre : List NodV) (x : NodV) (A : World) (l : Nat) (o o' : Obj) (hl : A.heap[l]? = some o) (hlim : lim ≤ l) (h : RelN all lim pre x A) : RelN all lim pre x (A.putObj l o') :=
  ⟨h.1, h.2.carry ((Below.refl lim A).grown (grownBy_putObj' A l o') (by have := (Array.getElem?_eq_some_iff.1 hl).1; omega) (fun k e => by cases e; exact hlim))⟩
theorem pre_kids : ∀ (f : Fo) (d : Nd), d ∈ f.pre → d.ks.cnt ≤ f.cnt
  | .nil, d, h => by simp [Fo.pre] at h
  | .cons k n ks r, d, h => by
    simp only [Fo.pre, List.mem_cons, List.mem_append] at h
    rcases h with rfl | h | h
    · simp only [Fo.cnt]; omega
    · have := pre_kids ks d h; simp only [Fo.cnt]; omega
    · have := pre_kids r d h; simp only [Fo.cnt]; omega
theorem all_kids {k n : Int} {f : Fo} {pre : List Nd} {d : Nd} {r : List Nd} (h : pre ++ d :: r = ⟨k, n, f⟩ :: f.pre) : d.ks.cnt ≤ f.cnt := by
  have : d ∈ (⟨k, n, f⟩ :: f.pre : List Nd) := by rw [← h]; simp
  rcases List.mem_cons.1 this with rfl | h
  · exact Nat.le_refl _
  · exact pre_kids f d h
theorem room_of_none {F : Fence} (hd : F.depth = none) (k : Nat) : F.room k := fun d h => by rw [hd] at h; cases h
theorem yield_any {m : Nat} (m' l2 : Nat) {P : Program} {l : Nat} {args : Array Value} {W : World} {R : Ending → World → Prop} (h : YieldAt Fence.wide m P l args W R) : YieldAt (Fence.wide.inRound l2) m' P l args W R := by
  obtain ⟨fn, tmps, assign, body, hy, h1, h2⟩ := h
  exact ⟨fn, tmps, assign, body, hy, h1, fun c cs _ => h2 c cs (room_of_none rfl _)⟩
theorem YieldAt.mono' {F : Fence} {m : Nat} {P : Program} {l : Nat} {args : Array Value} {W : World} {R R' : Ending → World → Prop} (h : YieldAt F m P l args W R) (hr : ∀ e w, R e w → R' e w) : YieldAt F m P l args W R' := by
  obtain ⟨fn, tmps, assign, body, hy, h1⟩ := h
  exact ⟨fn, tmps, assign, body, hy, h1.mono hr⟩
theorem nodes_rel (g : Nat) (hg : 1 ≤ g) (B1 n₀ m c : Nat) (k n : Int) (p : Option Addr) (f : Fo) (w : World) (hb0 : w.cell? ⟨B1, 0, none⟩ = some (.int .i64 k)) (hb1 : w.cell? ⟨B1, 1, none⟩ = some (.int .i64 n)) (hb2 : w.cell? ⟨B1, 2, none⟩ = some (.slice p m c)) (hK : Kids w n₀ (.slice p m c) f) (hn0 : n₀ ≤ w.heap.size) (hC : f.cnt ≤ 1048576) :
    SeqRel Fence.wide g Try.prog 82 #[.pointer (some ⟨B1, 0, none⟩)] encN n₀ (fun xs => xs.map NodV.nd = ⟨k, n, f⟩ :: f.pre) (fun pre => ∃ r, pre.map NodV.nd ++ r = ⟨k, n, f⟩ :: f.pre) (RelN (⟨k, n, f⟩ :: f.pre) n₀) w := fun l J Jx W hW hJ _ hY h0 => by
  have lB := block_lt_of_cell hb0
  exact nodes_g g hg B1 n₀ l m c k n p f W ((hW.cell (p := ⟨B1, 0, none⟩) lB).trans hb0) ((hW.cell (p := ⟨B1, 1, none⟩) lB).trans hb1) ((hW.cell (p := ⟨B1, 2, none⟩) lB).trans hb2) (hK.carry (hW.mono hn0)) (Nat.le_trans hn0 hW.size) hC J Jx hJ hY h0
set_option maxRecDepth 100000 in
set_option maxHeartbeats 4000000 in
theorem all_g (g : Nat) (hg : 8 ≤ g) (B1 n₀ l m c : Nat) (k n : Int) (p : Option Addr) (f : Fo) (W : World) (hb0 : W.cell? ⟨B1, 0, none⟩ = some (.int .i64 k)) (hb1 : W.cell? ⟨B1, 1, none⟩ = some (.int .i64 n)) (hb2 : W.cell? ⟨B1, 2, none⟩ = some (.slice p m c)) (hK : Kids W n₀ (.slice p m c) f) (hn0 : n₀ ≤ W.heap.size) (hC : f.cnt ≤ 1048576)
    (J Jx : List NodV → World → Prop) (hJ : Low W.heap.size J) (hJx : Low W.heap.size Jx)
    (hY : ∀ pre x V, J pre V → W.heap.size ≤ V.heap.size → RelA (⟨k, n, f⟩ :: f.pre) pre x V → YieldAt Fence.wide (g - 1) Try.prog l (encN x) V fun e V' => (e = .returned (.bool true) ∧ J (pre ++ [x]) V' ∧ Kw n₀ W.heap.size V V') ∨ (e = .returned (.bool false) ∧ Jx (pre ++ [x]) V' ∧ Kc W.heap.size V V'))
    (h0 : J [] W) : CallsIn Fence.wide g Try.prog 47 #[.func (.yield l) #[] #[], .pointer (some ⟨B1, 0, none⟩)] W fun e W' => (∃ v, e = .returned v) ∧
      ((∃ xs, xs.map NodV.nd = ⟨k, n, f⟩ :: f.pre ∧ J xs W') ∨ ∃ pre, (∃ r, pre.map NodV.nd ++ r = ⟨k, n, f⟩ :: f.pre) ∧ Jx pre W') := by
  have lB := block_lt_of_cell hb0
  obtain ⟨all, hall⟩ : ∃ all : List Nd, ⟨k, n, f⟩ :: f.pre = all := ⟨_, rfl⟩
  have HALL := Lib.hid hall
  obtain ⟨W1, hW1⟩ : ∃ W1, (W.alloc (.cells #[.func (.yield l) #[] #[]] 25)).alloc (.cells #[.int .i64 k, .int .i64 n, .slice p m c] 24) = W1 := ⟨_, rfl⟩
  have hY1 : W1.heap[W.heap.size]? = some (.cells #[.func (.yield l) #[] #[]] 25 (0, 0)) := by
    rw [← hW1, Below.heap_alloc _ _ _ (by simp)]; exact heap_alloc_new W _
  have hN1 : W1.heap[W.heap.size + 1]? = some (.cells #[.int .i64 k, .int .i64 n, .slice p m c] 24 (0, 0)) := by
    rw [← hW1]
    have := heap_alloc_new (W.alloc (.cells #[.func (.yield l) #[] #[]] 25)) (.cells #[.int .i64 k, .int .i64 n, .slice p m c] 24)
    rwa [World.size_alloc] at this
  have hs1 : W1.heap.size = W.heap.size + 2 := by rw [← hW1]; simp
  have hB1 : Below W.heap.size W W1 := by rw [← hW1]; exact ((Below.refl _ W).alloc (Nat.le_refl _) _).alloc (by simp) _
  obtain ⟨n0, n1, n2, _, _, _⟩ := row_cells3 hN1
  have hseq := nodes_rel (g - 1) (by omega) (W.heap.size + 1) n₀ m c k n p f W1 n0 n1 n2 (hK.carry (hB1.mono hn0)) (by omega) hC
  have hc : ∀ j, (W.alloc (.cells #[.func (.yield l) #[] #[]] 25)).cell? ⟨B1, j, none⟩ = W.cell? ⟨B1, j, none⟩ := fun j => World.cell?_of_block (a := ⟨B1, j, none⟩) (Below.heap_alloc W _ B1 lB)
  have d0 := (hc 0).trans hb0
  have d1 := (hc 1).trans hb1
  have d2 := (hc 2).trans hb2
  rw [hall] at hY hseq ⊢
  clear n0 n1 n2 hc hb0 hb1 hb2 hK hN1 hall
  refine callsIn_of_wp_marks Try.func47 rfl trivial ?_ rfl
  simp only [Try.ntmps47, List.size_toArray, List.length_cons, List.length_nil, Nat.reduceAdd, Nat.reduceSub, Array.replicate_succ, Array.replicate_zero, List.push_toArray, List.append_toArray, List.nil_append, List.cons_append]
  gi_wp2
  refine ⟨trivial, fun _ => by omega, (desc_nodesit _ k n (.slice p m c) _).mono ?_⟩
  rintro e w1 ⟨rfl, rfl⟩
  gi_wp2
  clear hW1
  refine wp_range_rel rfl (by omega) (gf := 82) (lb := #[.pointer (some ⟨W.heap.size + 1, 0, none⟩)]) rfl trivial (enters_of Try.func82 (by kernel_rfl) rfl)
    hseq (by omega)
    (fun pre x A C hA h hb => relN_new all n₀ pre x A C (by omega) h hb)
    (fun pre x A l o o' hl ho _ h => relN_put all n₀ pre x A l o o' ho (by omega) h)
    (Below.refl _ _) (fun _ => rfl)
    (fun pre W' => (∃ pre₂, J pre₂ W' ∧ pre₂.map NodV.nd = pre.map NodV.nd) ∧ W'.heap[W.heap.size]? = some (.cells #[.func (.yield l) #[] #[]] 25 (0, 0)))
    (fun c pre W' => c = .ret ∧ ∃ pre₂, Jx pre₂ W' ∧ pre₂.map NodV.nd = pre.map NodV.nd)
    (fun pre A C h hb => ⟨h.1.imp fun pre₂ h => ⟨hJ _ _ _ h.1 (hb.mono (by omega)), h.2⟩, (hb.block _ (by omega)).trans h.2⟩)
    (fun c pre A C h hb => ⟨h.1, h.2.imp fun pre₂ h => ⟨hJx _ _ _ h.1 (hb.mono (by omega)), h.2⟩⟩)
    ⟨⟨[], hJ _ _ _ h0 hB1, rfl⟩, hY1⟩
    (fun x V => { tmps := #[.func (.yield l) #[] #[], .pointer (some ⟨B1, 0, none⟩), .pointer (some ⟨W.heap.size, 0, none⟩), .pointer (some ⟨V.heap.size, 0, none⟩), .agg #[.int .i64 k, .int .i64 n, .slice p m c], .func (.func 82) #[] #[.pointer (some ⟨W.heap.size + 1, 0, none⟩)], .agg #[.int .i64 x.k, .int .i64 x.n, .slice x.a x.m x.c], undef, undef, undef, undef, undef], defers := [] })
    (fun x V => V.alloc (.cells #[.int .i64 x.k, .int .i64 x.n, .slice x.a x.m x.c] 24))
    (fun x V => (Below.refl _ V).alloc (Nat.le_refl _) _)
    ?assign ?body ?done ?stop
  case assign =>
    rintro l2 ⟨xk, xn, xa, xm, xc, xf⟩ W' K hK
    dsimp only [encN] at hK ⊢
    gi_wp2
    exact hK
  case body =>
    rintro l2 pre ⟨xk, xn, xa, xm, xc, xf⟩ V W' ⟨⟨pre₂, hj, hmap⟩, hyb⟩ ⟨⟨r, hr⟩, hk⟩ hl2 hlV hsz hsame
    dsimp only at hk hsz hsame ⊢
    have hx := (hsame V.heap.size (by omega)).trans (heap_alloc_new V _)
    have hx : W'.heap[V.heap.size]? = some (.cells #[.int .i64 xk, .int .i64 xn, .slice xa xm xc] 24 (0, 0)) := hx
    have hyb' : W'.cell? ⟨W.heap.size, 0, none⟩ = some (.func (.yield l) #[] #[]) := by rw [cell_of_row _ _ _ _ _ _ hyb]; rfl
    obtain ⟨x0, x1, x2, _, _, _⟩ := row_cells3 hx
    have hW1' : W1.heap.size ≤ W'.heap.size := by
      have := (Array.getElem?_eq_some_iff.1 hx).1
      omega
    have hcnt : xf.cnt ≤ 1048576 := by have := all_kids (hr.trans HALL.out.symm); exact Nat.le_trans this hC
    obtain rfl : xm = xf.len := by obtain ⟨_, _, e, _⟩ := hk; cases e; rfl
    have CL := Lib.hid (fun (u : World) (hu : u.heap = W'.heap) (hb : Below W'.heap.size W' u) => desc_clone xk xn (.slice xa xf.len xc) xf n₀ u (hk.carry (hb.mono (by omega))) (by rw [hu]; omega) hcnt)
    have YL := Lib.hid (fun (w6 : World) (F : Nat) (q : List Nd) (ka : Option Addr) (kc : Nat) (hb : Below W'.heap.size W' w6) (hq : Cloned w6 F xf q) (hkv : kidv F 0 xf.len = .slice ka xf.len kc) => yield_any (g - 1 - 1 - 1) l2 (YieldAt.mono' (hY pre₂ ⟨xk, xn, ka, xf.len, kc, xf⟩ w6 (hJ _ _ _ hj (hb.mono (by omega))) (by have := hb.size; omega) ⟨⟨r, by rw [hmap]; exact hr⟩, KidsS.cells (by dsimp only; rw [← hkv]; exact hq.kids (Nat.lt_of_lt_of_le hq.blk (Nat.le_refl _)) hcnt)⟩) (R' := fun e V' => ∃ bb, e = .returned (.bool bb) ∧ ((bb = true ∧ J (pre₂ ++ [⟨xk, xn, ka, xf.len, kc, xf⟩]) V' ∧ Kw n₀ W.heap.size w6 V') ∨ (bb = false ∧ Jx (pre₂ ++ [⟨xk, xn, ka, xf.len, kc, xf⟩]) V' ∧ Kc W.heap.size w6 V'))) (fun e w h => h.elim (fun h => ⟨true, h.1, .inl ⟨rfl, h.2⟩⟩) (fun h => ⟨false, h.1, .inr ⟨rfl, h.2⟩⟩))))
    have hmx : Try.prog.follows .mixedOrders = true := by kernel_rfl
    have hd : 1 ≤ g - 1 - 1 := by omega
    have hKa : Kw n₀ W1.heap.size W' W' := ⟨Below.refl _ _, fun _ _ _ h => h⟩
    clear hk hj hr hsame hY hseq
    gi_wp2
    gi_region_with_o (first | (refine ⟨trivial, ?_⟩; gi_at_call 21; refine (CallsIn.inRound l2 (callsIn_wide.2 (CL.out W'.drew rfl ((Below.refl _ _).drew)))).mono ?_; rintro e w6 ⟨F, q, rfl, hq, hF, b6⟩; obtain ⟨ka, kc, hkv⟩ := kidv_form F 0 xf.len; rw [hkv]; have hb6 := ((Below.refl W'.heap.size W').drew).trans b6; have hyb6 := (hb6.block W.heap.size (by omega)).trans hyb; have hyc6 : w6.cell? ⟨W.heap.size, 0, none⟩ = some (.func (.yield l) #[] #[]) := (by rw [cell_of_row _ _ _ _ _ _ hyb6]; rfl); obtain ⟨fn, tmps, assign, body, hy1, hR⟩ := YL.out w6 F q ka kc hb6 hq hkv; dsimp only [encN] at hy1; have HR := Lib.hid hR; have HB6 := Lib.hid hb6; clear hR hb6 hq b6) | (with_reducible refine (HR.out).mono ?_; rintro e w7 ⟨bb, rfl, hbb⟩; have HBB := Lib.hid hbb; clear hbb))
    all_goals
      rcases HBB.out with ⟨rfl, hJ7, hk7⟩ | ⟨rfl, hJx7, hk7⟩
      · have hG := Lib.hid (show Kw n₀ W1.heap.size W' w7 ∧ (∃ pre₃, J pre₃ w7 ∧ pre₃.map NodV.nd = (pre ++ [(⟨xk, xn, xa, xf.len, xc, xf⟩ : NodV)]).map NodV.nd) ∧ w7.heap[W.heap.size]? = some (.cells #[.func (.yield l) #[] #[]] 25 (0, 0)) from
          ⟨(Kw.of HB6.out (by omega)).trans (hk7.le (Nat.le_refl _) (by omega)), ⟨_, hJ7, by simp [hmap, NodV.nd]⟩, hk7.2 _ _ (Nat.le_refl _) hyb6⟩)
        clear hJ7 hk7 HBB
        gi_wp2
        exact hG.out
      · have hG := Lib.hid (show Kc W1.heap.size W' w7 ∧ ∃ pre₃, Jx pre₃ w7 ∧ pre₃.map NodV.nd = (pre ++ [(⟨xk, xn, xa, xf.len, xc, xf⟩ : NodV)]).map NodV.nd from
          ⟨fun k o hB ho => hk7 k o (by omega) ((HB6.out.block k (Array.getElem?_eq_some_iff.1 ho).1).trans ho), _, hJx7, by simp [hmap, NodV.nd]⟩)
        clear hJx7 hk7 HBB
        gi_wp2
        exact ⟨hG.out.1, rfl, hG.out.2⟩
  case done =>
    rintro D zs W' hD hzs ⟨⟨pre₂, hj, hmap⟩, hyb⟩ hK
    have hDz := (Array.getElem?_eq_some_iff.1 hK).1
    gi_wp2
    refine ⟨by simp, .inl ⟨_, _, rfl, run_takeDeferred hK, ?_⟩⟩
    exact ⟨_, results_none rfl _ _ _, ⟨_, rfl⟩, .inl ⟨pre₂, hmap.trans hzs, low_put hJ _ hj (by omega) hDz⟩⟩
  case stop =>
    rintro D c pre W' hD ⟨r, hr⟩ ⟨rfl, pre₂, hj, hmap⟩ hK
    have hDz := (Array.getElem?_eq_some_iff.1 hK).1
    gi_wp2
    refine ⟨by simp, .inl ⟨_, _, rfl, run_takeDeferred hK, ?_⟩⟩
    exact ⟨_, results_none rfl _ _ _, ⟨_, rfl⟩, .inr ⟨pre₂, ⟨r, by rw [hmap]; exact hr⟩, low_put hJx _ hj (by omega) hDz⟩⟩
end Go.Proofs.Ytfjioflggkmhcaa
