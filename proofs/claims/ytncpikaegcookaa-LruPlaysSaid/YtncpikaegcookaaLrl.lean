/- lru: ahead; a list in memory; find. -/
import Derived.Test.YtncpikaegcookaaLrk
import Derived.Test.YtncpikaegcookaaGmp
namespace Go.Proofs.Ytncpikaegcookaa
open Go.ChangeShapes Go.WideShapes Go.ChangeAt Go.RowKit
set_option linter.unusedVariables false
open Go.WideMaps Go.MapKept Go.WideElems Go.ChangeMaps Go.Maps
set_option linter.unusedSimpArgs false
theorem FR.lt {w : World} {F : Nat} {v : Value} {ts : List Nat} (h : FR w F v ts) {X : Nat} (hX : fblk v = some X) : X < w.heap.size := by
  rcases h with ⟨rfl, _⟩ | ⟨cap, L, rfl, h2, _⟩
  · cases hX
  · have : F = X := Option.some.inj hX
    subst this; exact h2.lt
theorem FR.slice {w : World} {F : Nat} {v : Value} {ts : List Nat} (h : FR w F v ts) : ∃ p c, v = .slice p ts.length c := by
  rcases h with ⟨rfl, rfl⟩ | ⟨cap, L, rfl, _⟩
  · exact ⟨none, 0, rfl⟩
  · exact ⟨_, cap, rfl⟩
set_option maxRecDepth 100000 in
set_option maxHeartbeats 4000000 in
theorem l_ahead (Lb M F t : Nat) (room : Int) (v : Value) (ts : List Nat) (W : World) (hB : LB W Lb room v M) (h : FR W F v ts) (hn : ts.length ≤ 1000) :
    Calls Try.prog 24 #[.pointer (some ⟨Lb, 0, none⟩), ptr t] W fun e w' => e = .returned (.tuple #[]) ∧ ∃ v' F', LB w' Lb room v' M ∧ FR w' F' v' (t :: ts) ∧ ((F' = F ∧ fblk v = some F) ∨ W.heap.size ≤ F') ∧ Bl W w' Lb (fblk v) := by
  obtain ⟨w1, hw1⟩ : ∃ w1, W.alloc (.cells #[ptr t] 52) = w1 := ⟨_, rfl⟩
  have b1 : Below W.heap.size W w1 := by rw [← hw1]; exact (Below.refl _ _).alloc (Nat.le_refl _) _
  have hV : w1.heap[W.heap.size]? = some (.cells #[ptr t] 52 (0, 0)) := by rw [← hw1]; exact heap_alloc_new _ _
  have h1 := h.below b1
  have hB1 : LB w1 Lb room v M := (b1.block Lb hB.lt).trans hB
  have hne : fblk v ≠ some W.heap.size := fun e => by have := h.lt e; omega
  have CI := Lib.hid (l_insert F W.heap.size t v ts w1 h1 hn hV hne)
  have hap := h1.apart hB1 (by decide)
  have HB1 := Lib.hid hB1
  have HAP := Lib.hid hap
  have HW := Lib.hid hw1
  have HB0 := Lib.hid b1
  have HBL := Lib.hid hB.lt
  have hlb := hB.lt
  obtain ⟨c0, c1, c2, f1⟩ := hB.cells
  obtain ⟨p, c, rfl⟩ := h.slice
  obtain ⟨z, hz⟩ : ∃ z, fblk (.slice p ts.length c) = z := ⟨_, rfl⟩
  rw [hz] at CI HAP
  have HZ := Lib.hid hz
  clear hB h h1 hB1 hne hap hV hw1 b1 hz
  unfold ptr
  go_enter Try.func24, Try.ntmps24
  go_wp2_with fail
  have HW2 := HW.out
  unfold ptr at HW2
  rw [HW2]
  refine (CI.out).mono ?_
  rintro e w2 ⟨v2, F2, rfl, hF2, hF3, hb2⟩
  have hB2 : LB w2 Lb room (.slice p ts.length c) M := (hb2.o Lb (by have := HB0.out.size; have := HBL.out; omega) HAP.out).trans HB1.out
  have hlb2 := hB2.lt
  obtain ⟨d0, d1, d2, g1⟩ := hB2.cells
  have hap2 := hF2.apart hB2 (by decide)
  obtain ⟨p2, c2', rfl⟩ := hF2.slice
  rw [List.length_cons] at hF2 hap2
  rw [List.length_cons]
  have E := Lib.hid (show LB (w2.setCell ⟨Lb, 1, none⟩ (.slice p2 (ts.length + 1) c2')) Lb room (.slice p2 (ts.length + 1) c2') M ∧ FR (w2.setCell ⟨Lb, 1, none⟩ (.slice p2 (ts.length + 1) c2')) F2 (.slice p2 (ts.length + 1) c2') (t :: ts) ∧ ((F2 = F ∧ z = some F) ∨ W.heap.size ≤ F2) ∧ Bl W (w2.setCell ⟨Lb, 1, none⟩ (.slice p2 (ts.length + 1) c2')) Lb z from by
    refine ⟨hB2.front _, hF2.keep (fun X hX => heap_setCell_other w2 ⟨Lb, 1, none⟩ X _ (fun e => hap2 (by rw [hX, e]))), ?_, ?_, ?_, ?_⟩
    · rcases hF3 with h | h
      · exact .inl h
      · exact .inr (by have := HB0.out.size; omega)
    · intro k hk h1 h2
      exact ((heap_setCell_other w2 ⟨Lb, 1, none⟩ k _ h1).trans (hb2.o k (by have := HB0.out.size; omega) h2)).trans (HB0.out.block k hk)
    · have := HB0.out.size; have := hb2.z; simp; omega
    · intro H h1 h2 h3
      exact ((HB0.out.mono h3).trans (hb2.b H h2 (by have := HB0.out.size; omega))).setCell (p := ⟨Lb, 1, none⟩) h1 _)
  clear hF2 hF3 hb2 hap2 hB2 c0 c1 c2 f1
  go_wp2_with fail
  go_end0
  rw [HZ.out]
  exact ⟨rfl, _, F2, E.out.1, E.out.2.1, E.out.2.2.1, E.out.2.2.2⟩
/-- A list in memory: its block, its row, its things, its map. (zs: each thing's block, its key, its value, from the front on.) -/
structure LA (w : World) (B0 Lb F M : Nat) (room : Int) (v : Value) (zs : List (Nat × Int × Int)) (es : List MapEntry) (ck : Nat) : Prop where
  l : LB w Lb room v M
  f : FR w F v (zs.map Prod.fst)
  t : ∀ z ∈ zs, w.heap[z.1]? = some (.cells #[.int .i64 z.2.1, .int .i64 z.2.2] 57 (0, 0))
  d : (zs.map Prod.fst).Nodup
  k : (zs.map (fun z => z.2.1)).Nodup
  r : ∀ z ∈ zs, -9223372036854775808 ≤ z.2.1 ∧ z.2.1 ≤ 9223372036854775807
  m : w.heap[M]? = some (.map es.toArray ck)
  e : ∀ e ∈ es, ∃ z ∈ zs, e.key = .int .i64 z.2.1 ∧ e.val = ptr z.1
  a : ∀ z ∈ zs, ∃ e ∈ es, e.key = .int .i64 z.2.1
  u : ∀ (i j : Nat) (x y : MapEntry), es[i]? = some x → es[j]? = some y → x.key = y.key → i = j
  lo : B0 ≤ Lb ∧ B0 ≤ M ∧ (∀ X, fblk v = some X → B0 ≤ X) ∧ ∀ z ∈ zs, B0 ≤ z.1
  sz : zs.length ≤ 1000
def Lru (w : World) (B0 Lb : Nat) (room : Int) (s : List (Int × Int)) : Prop := ∃ F M v zs es ck, LA w B0 Lb F M room v zs es ck ∧ s = zs.map Prod.snd
theorem LA.things {w : World} {B0 Lb F M : Nat} {room : Int} {v : Value} {zs : List (Nat × Int × Int)} {es : List MapEntry} {ck : Nat} (h : LA w B0 Lb F M room v zs es ck) : ∀ (j x : Nat), (zs.map Prod.fst)[j]? = some x → ∃ c, w.heap[x]? = some (.cells c 57 (0, 0)) := fun j x hj => by
  rw [List.getElem?_map] at hj
  obtain ⟨z, hz, rfl⟩ := Option.map_eq_some_iff.1 hj
  exact ⟨_, h.t z (List.mem_of_getElem? hz)⟩
theorem LA.below {w w' : World} {B0 Lb F M : Nat} {room : Int} {v : Value} {zs : List (Nat × Int × Int)} {es : List MapEntry} {ck : Nat} (h : LA w B0 Lb F M room v zs es ck) (hb : Below w.heap.size w w') : LA w' B0 Lb F M room v zs es ck :=
  ⟨(hb.block _ h.l.lt).trans h.l, h.f.below hb, fun z hz => (hb.block _ (g_lt (h.t z hz))).trans (h.t z hz), h.d, h.k, h.r, (hb.block _ (g_lt h.m)).trans h.m, h.e, h.a, h.u, h.lo, h.sz⟩
theorem Lru.below {w w' : World} {B0 Lb : Nat} {room : Int} {s : List (Int × Int)} (h : Lru w B0 Lb room s) (hb : Below w.heap.size w w') : Lru w' B0 Lb room s := by
  obtain ⟨F, M, v, zs, es, ck, h, e⟩ := h
  exact ⟨F, M, v, zs, es, ck, h.below hb, e⟩
/-- A key's place. -/
def vidx : List (Int × Int) → Int → Option Nat
  | [], _ => none
  | p :: s, k => if p.1 = k then some 0 else (vidx s k).map (· + 1)
theorem vidx_some : ∀ {s : List (Int × Int)} {k : Int} {j : Nat}, vidx s k = some j → ∃ p, s[j]? = some p ∧ p.1 = k
  | [], k, j, h => by cases h
  | p :: s, k, j, h => by
    rw [vidx] at h
    by_cases hp : p.1 = k
    · rw [if_pos hp] at h
      cases h
      exact ⟨p, rfl, hp⟩
    · rw [if_neg hp] at h
      obtain ⟨i, hi, rfl⟩ := Option.map_eq_some_iff.1 h
      obtain ⟨q, h1, h2⟩ := vidx_some hi
      exact ⟨q, by rw [List.getElem?_cons_succ]; exact h1, h2⟩
theorem vidx_none : ∀ {s : List (Int × Int)} {k : Int}, vidx s k = none → ∀ p ∈ s, p.1 ≠ k
  | [], k, _ => fun p h => by cases h
  | p :: s, k, h => by
    rw [vidx] at h
    by_cases hp : p.1 = k
    · rw [if_pos hp] at h; cases h
    · rw [if_neg hp] at h
      have h2 := vidx_none (Option.map_eq_none_iff.1 h)
      exact fun q hq => by
        rcases List.mem_cons.1 hq with rfl | hq
        · exact hp
        · exact h2 q hq
theorem zidx {zs : List (Nat × Int × Int)} {k : Int} {j : Nat} (h : vidx (zs.map Prod.snd) k = some j) : ∃ z, zs[j]? = some z ∧ z.2.1 = k := by
  obtain ⟨p, hp, hk⟩ := vidx_some h
  rw [List.getElem?_map] at hp
  obtain ⟨z, hz, rfl⟩ := Option.map_eq_some_iff.1 hp
  exact ⟨z, hz, hk⟩
theorem lit_ok {k : Int} (hk : -9223372036854775808 ≤ k ∧ k ≤ 9223372036854775807) : keyOf Try.prog 3 (.int .i64 k) = some (.int .i64 k) := by
  have hw : (Lit.int .i64 k).wf = true := by simp [Lit.wf, IntKind.min, IntKind.max, IntKind.signed, IntKind.bits]; omega
  simp [keyOf, mapKey, Try.underlying3, hw]
theorem lr_keyed : Keyed Try.prog 3 := int_keyed Try.underlying3
theorem LA.same {w : World} {B0 Lb F M : Nat} {room : Int} {v : Value} {zs : List (Nat × Int × Int)} {es : List MapEntry} {ck : Nat} (h : LA w B0 Lb F M room v zs es ck) {x y : Nat × Int × Int} (hx : x ∈ zs) (hy : y ∈ zs) (e : x.2.1 = y.2.1) : x = y := by
  obtain ⟨i, hi⟩ := List.mem_iff_getElem?.1 hx
  obtain ⟨j, hj⟩ := List.mem_iff_getElem?.1 hy
  have e1 : (zs.map (fun z => z.2.1))[i]? = some x.2.1 := by rw [List.getElem?_map, hi]; rfl
  have e2 : (zs.map (fun z => z.2.1))[j]? = some y.2.1 := by rw [List.getElem?_map, hj]; rfl
  have : i = j := (List.getElem?_inj (List.getElem?_eq_some_iff.1 e1).1 h.k).1 (by rw [e1, e2, e])
  subst this
  rw [hi] at hj
  exact Option.some.inj hj
/-- A look into the map. -/
theorem LA.look {w : World} {B0 Lb F M : Nat} {room : Int} {v : Value} {zs : List (Nat × Int × Int)} {es : List MapEntry} {ck : Nat} (h : LA w B0 Lb F M room v zs es ck) {k : Int} (hk : -9223372036854775808 ≤ k ∧ k ≤ 9223372036854775807) :
    (∀ z ∈ zs, z.2.1 = k → (Instr.lookup 48 (.map (some M)) (.int .i64 k) false).run Try.prog w = .ok (ptr z.1) w) ∧
    ((∀ z ∈ zs, z.2.1 ≠ k) → (Instr.lookup 48 (.map (some M)) (.int .i64 k) false).run Try.prog w = .ok nilP w) := by
  have hkey := lit_ok hk
  have hes : ∀ x ∈ es, ∃ l, keyOf Try.prog 3 x.key = some l := fun x hx => by
    obtain ⟨z, hz, h3, -⟩ := h.e x hx
    exact ⟨_, by rw [h3]; exact lit_ok (h.r z hz)⟩
  have hm := h.m
  rcases lr_keyed.find w hkey es hes with ⟨h1, h2⟩ | ⟨i, e, h1, h2, h3⟩
  · refine ⟨fun z hz e => ?_, fun _ => ?_⟩
    · subst e
      obtain ⟨e, he, h4⟩ := h.a z hz
      exact absurd h4 (h2 e he)
    · simp [Instr.lookup, run_underlying Try.underlying48, MapKept.run_getObj_map hm, lr_keyed.check w _ hkey, h1, zero_p, Result.andThen, nilP]
  · obtain ⟨z, a1, a3, a4⟩ := h.e e (List.mem_of_getElem? h2)
    rw [h3] at a3
    have hkp : k = z.2.1 := by simpa using a3
    refine ⟨fun z' hz' e' => ?_, fun hno => absurd hkp.symm (hno z a1)⟩
    have : z' = z := h.same hz' a1 (e'.trans hkp)
    subst this
    simp [Instr.lookup, run_underlying Try.underlying48, MapKept.run_getObj_map hm, lr_keyed.check w _ hkey, h1, a4, Result.andThen]
def pfind (zs : List (Nat × Int × Int)) (o : Option Nat) : Value := match o.bind (fun j => zs[j]?) with | some z => ptr z.1 | none => nilP
theorem pfind_some {zs : List (Nat × Int × Int)} {j : Nat} {z : Nat × Int × Int} (h : zs[j]? = some z) : pfind zs (some j) = ptr z.1 := by unfold pfind; rw [Option.bind_some, h]
set_option maxRecDepth 100000 in
set_option maxHeartbeats 4000000 in
theorem l_find (B0 Lb F M : Nat) (room : Int) (v : Value) (zs : List (Nat × Int × Int)) (es : List MapEntry) (ck : Nat) (k : Int) (W : World) (h : LA W B0 Lb F M room v zs es ck) (hk : -9223372036854775808 ≤ k ∧ k ≤ 9223372036854775807) :
    Calls Try.prog 21 #[.pointer (some ⟨Lb, 0, none⟩), .int .i64 k] W fun e w' => e = .returned (pfind zs (vidx (zs.map Prod.snd) k)) ∧ Below W.heap.size W w' := by
  have CI := Lib.hid (lr_itself k)
  have H := Lib.hid h
  have HK := Lib.hid hk
  have hlb := h.l.lt
  clear h hk
  go_enter Try.func21, Try.ntmps21
  go_wp2_with fail
  refine (CI.out W).mono ?_
  rintro e w1 ⟨rfl, hb1⟩
  have H1 := Lib.hid (H.out.below hb1)
  have HB := Lib.hid hb1
  obtain ⟨c0, c1, c2, f1⟩ := H1.out.l.cells
  have hlb1 := H1.out.l.lt
  clear hb1
  cases hv : vidx (zs.map Prod.snd) k with
  | none =>
    have hl := (H1.out.look HK.out).2 (fun z hz e => vidx_none hv z.2 (List.mem_map.2 ⟨z, hz, rfl⟩) e)
    unfold nilP at hl
    have HV := Lib.hid hv
    clear hv
    go_wp2_with fail
    go_ret
    exact ⟨by rw [HV.out]; rfl, HB.out⟩
  | some j =>
    obtain ⟨z, hz, hzk⟩ := zidx hv
    have hl := (H1.out.look HK.out).1 z (List.mem_of_getElem? hz) hzk
    have HX := Lib.hid hz
    unfold ptr at hl
    have HV := Lib.hid hv
    clear hz hv hzk
    go_wp2_with fail
    go_ret
    exact ⟨by rw [HV.out, pfind_some HX.out]; rfl, HB.out⟩
/-- A list whose row has changed, its things being the same. -/
theorem LA.moved {w w' : World} {B0 Lb F M F' : Nat} {room : Int} {v v' : Value} {zs zs' : List (Nat × Int × Int)} {es : List MapEntry} {ck : Nat} (h : LA w B0 Lb F M room v zs es ck) (hp : zs'.Perm zs) (hl : LB w' Lb room v' M) (hf : FR w' F' v' (zs'.map Prod.fst))
    (ho : ∀ k, k < w.heap.size → k ≠ Lb → fblk v ≠ some k → w'.heap[k]? = w.heap[k]?) (hlo : ∀ X, fblk v' = some X → B0 ≤ X) : LA w' B0 Lb F' M room v' zs' es ck := by
  have hM : M ≠ Lb := fun e => by have h1 := h.m; have h2 := h.l; unfold LB at h2; rw [← e, h1] at h2; cases h2
  refine ⟨hl, hf, fun z hz => ?_, ?_, ?_, fun z hz => h.r z (hp.mem_iff.1 hz), (ho M (g_lt h.m) hM (h.f.apartM h.m (fun cs T fr e => by cases e))).trans h.m, fun e he => ?_, fun z hz => h.a z (hp.mem_iff.1 hz), h.u, ⟨h.lo.1, h.lo.2.1, hlo, fun z hz => h.lo.2.2.2 z (hp.mem_iff.1 hz)⟩, by rw [hp.length_eq]; exact h.sz⟩
  · have ht := h.t z (hp.mem_iff.1 hz)
    refine (ho z.1 (g_lt ht) (fun e => ?_) (h.f.apart ht (by decide))).trans ht
    have h2 := h.l
    unfold LB at h2
    rw [← e, ht] at h2
    simp at h2
  · exact (hp.map Prod.fst).nodup_iff.2 h.d
  · exact (hp.map (fun z => z.2.1)).nodup_iff.2 h.k
  · obtain ⟨z, hz, h1⟩ := h.e e he
    exact ⟨z, hp.mem_iff.2 hz, h1⟩
theorem erase_perm {α : Type} : ∀ {l : List α} {j : Nat} {x : α}, l[j]? = some x → (x :: l.eraseIdx j).Perm l
  | [], j, x, h => by simp at h
  | y :: l, 0, x, h => by simp at h; subst h; exact List.Perm.refl _
  | y :: l, j + 1, x, h => by
    rw [List.getElem?_cons_succ] at h
    rw [List.eraseIdx_cons_succ]
    exact (List.Perm.swap y x _).trans ((erase_perm h).cons y)
theorem map_erase {α β : Type} (f : α → β) : ∀ (l : List α) (j : Nat), (l.eraseIdx j).map f = (l.map f).eraseIdx j
  | [], j => by simp
  | y :: l, 0 => rfl
  | y :: l, j + 1 => by rw [List.eraseIdx_cons_succ, List.map_cons, List.map_cons, List.eraseIdx_cons_succ, map_erase f l j]
end Go.Proofs.Ytncpikaegcookaa
