/- By program (gendl.py): the list's contracts, what they keep told block by block. -/
import Derived.Test.YtncpikaegcookaaLru
namespace Go.Proofs.Ytncpikaegcookaa
open Go.ChangeShapes Go.WideShapes Go.ChangeAt Go.RowKit
set_option linter.unusedVariables false
open Go.WideMaps Go.MapKept Go.WideElems Go.ChangeMaps Go.Maps
set_option linter.unusedSimpArgs false
/-- What is not in D is kept. -/
structure BelowD (D : Nat → Prop) (w w' : World) : Prop where
  os : w'.os = w.os
  tape : w'.tape = w.tape
  output : w'.output = w.output
  size : w.heap.size ≤ w'.heap.size
  block : ∀ k, k < w.heap.size → ¬ D k → w'.heap[k]? = w.heap[k]?
def Up (D : Nat → Prop) (n : Nat) : Prop := ∀ X, n ≤ X → D X
theorem Up.mono {D : Nat → Prop} {n m : Nat} (h : Up D n) (hm : n ≤ m) : Up D m := fun X hX => h X (Nat.le_trans hm hX)
theorem BelowD.refl (D : Nat → Prop) (w : World) : BelowD D w w := ⟨rfl, rfl, rfl, Nat.le_refl _, fun _ _ _ => rfl⟩
theorem BelowD.trans {D : Nat → Prop} {a b c : World} (h : BelowD D a b) (k : BelowD D b c) : BelowD D a c :=
  ⟨k.os.trans h.os, k.tape.trans h.tape, k.output.trans h.output, Nat.le_trans h.size k.size, fun i hi hn => (k.block i (Nat.lt_of_lt_of_le hi h.size) hn).trans (h.block i hi hn)⟩
theorem BelowD.drew {D : Nat → Prop} {a w : World} (h : BelowD D a w) : BelowD D a w.drew := ⟨h.os, h.tape, h.output, h.size, h.block⟩
theorem BelowD.setCell {D : Nat → Prop} {a w : World} (h : BelowD D a w) {p : Addr} (hp : D p.block) (u : Value) : BelowD D a (w.setCell p u) :=
  h.trans ⟨rfl, rfl, rfl, by simp [World.setCell], fun k hk hn => Below.heap_setCell _ _ _ _ (fun e => hn (e ▸ hp))⟩
theorem _root_.Go.RowKit.Below.toD {n : Nat} {D : Nat → Prop} {w w' : World} (h : Below n w w') (u : Up D n) : BelowD D w w' :=
  ⟨h.os, h.tape, h.output, h.size, fun k _ hn => h.block k (Nat.lt_of_not_le (fun e => hn (u k e)))⟩
theorem gs_belowD {D : Nat → Prop} {w : World} {b : Nat} {o : Obj} (h : D b) : BelowD D w (setBlock w b o) := ⟨rfl, rfl, rfl, by rw [gs_size]; exact Nat.le_refl _, fun X _ hn => gs_heap (fun e => hn (by first | (rw [e]; exact h) | (rw [← e]; exact h)))⟩
theorem Bl.bD {D : Nat → Prop} {w w' : World} {Lb : Nat} {q : Option Nat} (h : Bl w w' Lb q) (hL : D Lb) (hq : ∀ F, q = some F → D F) : BelowD D w w' :=
  have b := h.b 0 (Nat.zero_le _) (fun _ _ => Nat.zero_le _) (Nat.zero_le _)
  ⟨b.os, b.tape, b.output, h.z, fun k hk hn => h.o k hk (fun e => hn (e ▸ hL)) (fun e => hn (hq k e))⟩
namespace DD
/-- A list in memory: its block, its row, its things, its map. (zs: each thing's block, its key, its value, from the front on.) -/
structure LA (w : World) (B0 : Nat → Prop) (Lb F M : Nat) (room : Int) (v : Value) (zs : List (Nat × Int × Int)) (es : List MapEntry) (ck : Nat) : Prop where
  l : LB w Lb room v M
  f : FR w F v (zs.map Prod.fst)
  t : ∀ z ∈ zs, w.heap[z.1]? = some (.cells #[.int .i64 z.2.1, .int .i64 z.2.2] 57 (0, 0))
  d : (zs.map Prod.fst).Nodup
  k : (zs.map (fun z => z.2.1)).Nodup
  r : ∀ z ∈ zs, -9223372036854775808 ≤ z.2.1 ∧ z.2.1 ≤ 9223372036854775807
  m : w.heap[M]? = some (.map es.toArray ck)
  e : ∀ e ∈ es, ∃ z ∈ zs, e.key = .int .i64 z.2.1 ∧ e.val = ptr z.1
  a : ∀ z ∈ zs, ∃ e ∈ es, e.key = .int .i64 z.2.1
  u : ∀ (i j : Nat) (x y : MapEntry), es[i]? = some x → es[j]? = some y → x.key = y.key → i = j
  lo : B0 Lb ∧ B0 M ∧ (∀ X, fblk v = some X → B0 X) ∧ ∀ z ∈ zs, B0 z.1
  sz : zs.length ≤ 1000
def Lru (w : World) (B0 : Nat → Prop) (Lb : Nat) (room : Int) (s : List (Int × Int)) : Prop := ∃ F M v zs es ck, LA w B0 Lb F M room v zs es ck ∧ s = zs.map Prod.snd
theorem LA.things {w : World} {B0 : Nat → Prop} {Lb F M : Nat} {room : Int} {v : Value} {zs : List (Nat × Int × Int)} {es : List MapEntry} {ck : Nat} (h : LA w B0 Lb F M room v zs es ck) : ∀ (j x : Nat), (zs.map Prod.fst)[j]? = some x → ∃ c, w.heap[x]? = some (.cells c 57 (0, 0)) := fun j x hj => by
  rw [List.getElem?_map] at hj
  obtain ⟨z, hz, rfl⟩ := Option.map_eq_some_iff.1 hj
  exact ⟨_, h.t z (List.mem_of_getElem? hz)⟩
theorem LA.below {w w' : World} {B0 : Nat → Prop} {Lb F M : Nat} {room : Int} {v : Value} {zs : List (Nat × Int × Int)} {es : List MapEntry} {ck : Nat} (h : LA w B0 Lb F M room v zs es ck) (hb : Below w.heap.size w w') : LA w' B0 Lb F M room v zs es ck :=
  ⟨(hb.block _ h.l.lt).trans h.l, h.f.below hb, fun z hz => (hb.block _ (g_lt (h.t z hz))).trans (h.t z hz), h.d, h.k, h.r, (hb.block _ (g_lt h.m)).trans h.m, h.e, h.a, h.u, h.lo, h.sz⟩
theorem Lru.below {w w' : World} {B0 : Nat → Prop} {Lb : Nat} {room : Int} {s : List (Int × Int)} (h : Lru w B0 Lb room s) (hb : Below w.heap.size w w') : Lru w' B0 Lb room s := by
  obtain ⟨F, M, v, zs, es, ck, h, e⟩ := h
  exact ⟨F, M, v, zs, es, ck, h.below hb, e⟩
theorem LA.same {w : World} {B0 : Nat → Prop} {Lb F M : Nat} {room : Int} {v : Value} {zs : List (Nat × Int × Int)} {es : List MapEntry} {ck : Nat} (h : LA w B0 Lb F M room v zs es ck) {x y : Nat × Int × Int} (hx : x ∈ zs) (hy : y ∈ zs) (e : x.2.1 = y.2.1) : x = y := by
  obtain ⟨i, hi⟩ := List.mem_iff_getElem?.1 hx
  obtain ⟨j, hj⟩ := List.mem_iff_getElem?.1 hy
  have e1 : (zs.map (fun z => z.2.1))[i]? = some x.2.1 := by rw [List.getElem?_map, hi]; rfl
  have e2 : (zs.map (fun z => z.2.1))[j]? = some y.2.1 := by rw [List.getElem?_map, hj]; rfl
  have : i = j := (List.getElem?_inj (List.getElem?_eq_some_iff.1 e1).1 h.k).1 (by rw [e1, e2, e])
  subst this
  rw [hi] at hj
  exact Option.some.inj hj
/-- A look into the map. -/
theorem LA.look {w : World} {B0 : Nat → Prop} {Lb F M : Nat} {room : Int} {v : Value} {zs : List (Nat × Int × Int)} {es : List MapEntry} {ck : Nat} (h : LA w B0 Lb F M room v zs es ck) {k : Int} (hk : -9223372036854775808 ≤ k ∧ k ≤ 9223372036854775807) :
    (∀ z ∈ zs, z.2.1 = k → (Instr.lookup 48 (.map (some M)) (.int .i64 k) false).run Try.prog w = .ok (ptr z.1) w) ∧
    ((∀ z ∈ zs, z.2.1 ≠ k) → (Instr.lookup 48 (.map (some M)) (.int .i64 k) false).run Try.prog w = .ok nilP w) := by
  have hkey := lit_ok hk
  have hes : ∀ x ∈ es, ∃ l, keyOf Try.prog 3 x.key = some l := fun x hx => by
    obtain ⟨z, hz, h3, -⟩ := h.e x hx
    exact ⟨_, by rw [h3]; exact lit_ok (h.r z hz)⟩
  have hm := h.m
  rcases lr_keyed.find w hkey es hes with ⟨h1, h2⟩ | ⟨i, e, h1, h2, h3⟩
  · refine ⟨fun z hz e => ?_, fun _ => ?_⟩
    · subst e
      obtain ⟨e, he, h4⟩ := h.a z hz
      exact absurd h4 (h2 e he)
    · simp [Instr.lookup, run_underlying Try.underlying48, MapKept.run_getObj_map hm, lr_keyed.check w _ hkey, h1, zero_p, Result.andThen, nilP]
  · obtain ⟨z, a1, a3, a4⟩ := h.e e (List.mem_of_getElem? h2)
    rw [h3] at a3
    have hkp : k = z.2.1 := by simpa using a3
    refine ⟨fun z' hz' e' => ?_, fun hno => absurd hkp.symm (hno z a1)⟩
    have : z' = z := h.same hz' a1 (e'.trans hkp)
    subst this
    simp [Instr.lookup, run_underlying Try.underlying48, MapKept.run_getObj_map hm, lr_keyed.check w _ hkey, h1, a4, Result.andThen]
set_option maxRecDepth 100000 in
set_option maxHeartbeats 4000000 in
theorem l_find (B0 : Nat → Prop) (Lb F M : Nat) (room : Int) (v : Value) (zs : List (Nat × Int × Int)) (es : List MapEntry) (ck : Nat) (k : Int) (W : World) (h : LA W B0 Lb F M room v zs es ck) (hk : -9223372036854775808 ≤ k ∧ k ≤ 9223372036854775807) :
    Calls Try.prog 21 #[.pointer (some ⟨Lb, 0, none⟩), .int .i64 k] W fun e w' => e = .returned (pfind zs (vidx (zs.map Prod.snd) k)) ∧ Below W.heap.size W w' := by
  have CI := Lib.hid (lr_itself k)
  have H := Lib.hid h
  have HK := Lib.hid hk
  have hlb := h.l.lt
  clear h hk
  go_enter Try.func21, Try.ntmps21
  go_wp2_with fail
  refine (CI.out W).mono ?_
  rintro e w1 ⟨rfl, hb1⟩
  have H1 := Lib.hid (H.out.below hb1)
  have HB := Lib.hid hb1
  obtain ⟨c0, c1, c2, f1⟩ := H1.out.l.cells
  have hlb1 := H1.out.l.lt
  clear hb1
  cases hv : vidx (zs.map Prod.snd) k with
  | none =>
    have hl := (H1.out.look HK.out).2 (fun z hz e => vidx_none hv z.2 (List.mem_map.2 ⟨z, hz, rfl⟩) e)
    unfold nilP at hl
    have HV := Lib.hid hv
    clear hv
    go_wp2_with fail
    go_ret
    exact ⟨by rw [HV.out]; rfl, HB.out⟩
  | some j =>
    obtain ⟨z, hz, hzk⟩ := zidx hv
    have hl := (H1.out.look HK.out).1 z (List.mem_of_getElem? hz) hzk
    have HX := Lib.hid hz
    unfold ptr at hl
    have HV := Lib.hid hv
    clear hz hv hzk
    go_wp2_with fail
    go_ret
    exact ⟨by rw [HV.out, pfind_some HX.out]; rfl, HB.out⟩
/-- A list whose row has changed, its things being the same. -/
theorem LA.moved {w w' : World} {B0 : Nat → Prop} {Lb F M F' : Nat} {room : Int} {v v' : Value} {zs zs' : List (Nat × Int × Int)} {es : List MapEntry} {ck : Nat} (h : LA w B0 Lb F M room v zs es ck) (hp : zs'.Perm zs) (hl : LB w' Lb room v' M) (hf : FR w' F' v' (zs'.map Prod.fst))
    (ho : ∀ k, k < w.heap.size → k ≠ Lb → fblk v ≠ some k → w'.heap[k]? = w.heap[k]?) (hlo : ∀ X, fblk v' = some X → B0 X) : LA w' B0 Lb F' M room v' zs' es ck := by
  have hM : M ≠ Lb := fun e => by have h1 := h.m; have h2 := h.l; unfold LB at h2; rw [← e, h1] at h2; cases h2
  refine ⟨hl, hf, fun z hz => ?_, ?_, ?_, fun z hz => h.r z (hp.mem_iff.1 hz), (ho M (g_lt h.m) hM (h.f.apartM h.m (fun cs T fr e => by cases e))).trans h.m, fun e he => ?_, fun z hz => h.a z (hp.mem_iff.1 hz), h.u, ⟨h.lo.1, h.lo.2.1, hlo, fun z hz => h.lo.2.2.2 z (hp.mem_iff.1 hz)⟩, by rw [hp.length_eq]; exact h.sz⟩
  · have ht := h.t z (hp.mem_iff.1 hz)
    refine (ho z.1 (g_lt ht) (fun e => ?_) (h.f.apart ht (by decide))).trans ht
    have h2 := h.l
    unfold LB at h2
    rw [← e, ht] at h2
    simp at h2
  · exact (hp.map Prod.fst).nodup_iff.2 h.d
  · exact (hp.map (fun z => z.2.1)).nodup_iff.2 h.k
  · obtain ⟨z, hz, h1⟩ := h.e e he
    exact ⟨z, hp.mem_iff.2 hz, h1⟩
end DD
end Go.Proofs.Ytncpikaegcookaa
