/- lru: add, take, Del. By program (genlrn.py). -/
import Derived.Test.YtncpikaegcookaaLrm
namespace Go.Proofs.Ytncpikaegcookaa
open Go.ChangeShapes Go.WideShapes Go.ChangeAt Go.RowKit
set_option linter.unusedVariables false
open Go.WideMaps Go.MapKept Go.WideElems Go.ChangeMaps Go.Maps
set_option linter.unusedSimpArgs false
theorem step_del {ops : Array Oper} {o : Oper} {a : Act} {w : World} {K : Act → World → Prop} {Q : Exit → Act → World → Prop} {E : Prop} (hgd : o.guard = none) (s x : Operand) (T T' : TypeId)
    (ho : o.op = .call { callee := .builtin .delete, args := #[s, x], argTypes := #[T, T'] }) (v u : Value) (hs : a.eval s = v) (hx : a.eval x = u) {v' : Value} {w' : World} (hr : (Builtin.delete_ #[T, T'] o.type #[v, u]).run Try.prog w = .ok v' w') (h : K (a.put o.dst v') w') :
    if Region.wanted o (yielded ops a.tmps) = true then Oper.wp Try.prog o a w K Q else E := by
  rw [if_pos (by simp [Region.wanted, hgd])]
  unfold Oper.wp execOp
  simp only [ho, resolve, invoke, builtin, Sem.run_bind, Sem.run_pure, Result.andThen_ok, List.map_toArray, List.map_cons, List.map_nil, hs, hx, hr]
  exact h
/-- A new key goes into the map. -/
theorem LA.push {w : World} {B0 Lb F M : Nat} {room : Int} {v : Value} {zs : List (Nat × Int × Int)} {es : List MapEntry} {ck : Nat} (h : LA w B0 Lb F M room v zs es ck) {k : Int} (hk : -9223372036854775808 ≤ k ∧ k ≤ 9223372036854775807) (hn : ∀ z ∈ zs, z.2.1 ≠ k) (w' : World) (hm : w'.heap[M]? = some (.map es.toArray ck)) (val : Value) :
    (Instr.mapUpdate 48 (.map (some M)) (.int .i64 k) val).run Try.prog w' = .ok () (setBlock w' M (.map (es ++ [(⟨.int .i64 k, val, ck⟩ : MapEntry)]).toArray (ck + 1))) ∧ ∀ e ∈ es, e.key ≠ .int .i64 k := by
  have hkey := lit_ok hk
  have hes : ∀ x ∈ es, ∃ l, keyOf Try.prog 3 x.key = some l := fun x hx => by
    obtain ⟨z, hz, h3, -⟩ := h.e x hx
    exact ⟨_, by rw [h3]; exact lit_ok (h.r z hz)⟩
  rcases lr_keyed.find w' hkey es hes with ⟨h1, h2⟩ | ⟨i, e, h1, h2, h3⟩
  · refine ⟨?_, h2⟩
    have hp : es.toArray.push (⟨.int .i64 k, val, ck⟩ : MapEntry) = (es ++ [(⟨.int .i64 k, val, ck⟩ : MapEntry)]).toArray := by simp
    simp only [Instr.mapUpdate, Sem.run_bind, Sem.run_pure, run_underlying Try.underlying48, MapKept.run_getObj_map hm, lr_keyed.check w' false hkey, h1, MapKept.run_setObj_map _ hm, Result.andThen, hp, setBlock]
  · obtain ⟨z, a1, a3, -⟩ := h.e e (List.mem_of_getElem? h2)
    rw [h3] at a3
    have hkp : k = z.2.1 := by simpa using a3
    exact absurd hkp.symm (hn z a1)
/-- A key goes out of the map. -/
theorem LA.del {w : World} {B0 Lb F M : Nat} {room : Int} {v : Value} {zs : List (Nat × Int × Int)} {es : List MapEntry} {ck : Nat} (h : LA w B0 Lb F M room v zs es ck) {z : Nat × Int × Int} (hz : z ∈ zs) (w' : World) (hm : w'.heap[M]? = some (.map es.toArray ck)) (ty : TypeId) :
    ∃ i e, es[i]? = some e ∧ e.key = .int .i64 z.2.1 ∧ (Builtin.delete_ #[48, 3] ty #[.map (some M), .int .i64 z.2.1]).run Try.prog w' = .ok (.tuple #[]) (setBlock w' M (.map (es.eraseIdx i).toArray ck)) := by
  have hkey := lit_ok (h.r z hz)
  have hes : ∀ x ∈ es, ∃ l, keyOf Try.prog 3 x.key = some l := fun x hx => by
    obtain ⟨y, hy, h3, -⟩ := h.e x hx
    exact ⟨_, by rw [h3]; exact lit_ok (h.r y hy)⟩
  rcases lr_keyed.find w' hkey es hes with ⟨h1, h2⟩ | ⟨i, e, h1, h2, h3⟩
  · obtain ⟨e, he, h4⟩ := h.a z hz
    exact absurd h4 (h2 e he)
  · refine ⟨i, e, h2, h3, ?_⟩
    have he : es.toArray.eraseIdxIfInBounds i = (es.eraseIdx i).toArray := by
      have hi := (List.getElem?_eq_some_iff.1 h2).1
      simp [Array.eraseIdxIfInBounds, hi]
    simp only [Builtin.delete_, Sem.run_bind, Sem.run_pure, run_underlying Try.underlying48, MapKept.run_getObj_map hm, lr_keyed.check w' _ hkey, h1, MapKept.run_setObj_map _ hm, Result.andThen, he, setBlock]
    simp [MapKept.run_getObj_map hm, lr_keyed.check w' _ hkey, h1, MapKept.run_setObj_map _ hm, Result.andThen, he, setBlock]
theorem nodup_getD {α : Type} {l : List α} (h : l.Nodup) {i j : Nat} {x : α} (hi : l[i]? = some x) (hj : l[j]? = some x) : i = j :=
  (List.getElem?_inj (List.getElem?_eq_some_iff.1 hi).1 h).1 (by rw [hi, hj])
theorem mem_erase {α : Type} : ∀ {l : List α} {i : Nat} {x : α}, x ∈ l.eraseIdx i ↔ ∃ j, j ≠ i ∧ l[j]? = some x := by
  intro l i x
  constructor
  · intro h
    obtain ⟨j, hj⟩ := List.mem_iff_getElem?.1 h
    rw [List.getElem?_eraseIdx] at hj
    split at hj
    · exact ⟨j, by omega, hj⟩
    · exact ⟨j + 1, by omega, hj⟩
  · rintro ⟨j, hj, hx⟩
    by_cases h : j < i
    · exact List.mem_of_getElem? (i := j) (by rw [List.getElem?_eraseIdx, if_pos h]; exact hx)
    · refine List.mem_of_getElem? (i := j - 1) ?_
      rw [List.getElem?_eraseIdx, if_neg (by omega), show j - 1 + 1 = j by omega]
      exact hx
def delN (s : List (Int × Int)) (k : Int) : List (Int × Int) := match vidx s k with | some j => s.eraseIdx j | none => s
theorem delN_none {s : List (Int × Int)} {k : Int} (h : vidx s k = none) : delN s k = s := by unfold delN; rw [h]
theorem delN_some {s : List (Int × Int)} {k : Int} {j : Nat} (h : vidx s k = some j) : delN s k = s.eraseIdx j := by unfold delN; rw [h]
set_option maxRecDepth 100000 in
set_option maxHeartbeats 8000000 in
theorem l_add (B0 Lb F M : Nat) (room : Int) (v : Value) (zs : List (Nat × Int × Int)) (es : List MapEntry) (ck : Nat) (k a : Int) (W : World) (h : LA W B0 Lb F M room v zs es ck) (hk : -9223372036854775808 ≤ k ∧ k ≤ 9223372036854775807) (hn : ∀ z ∈ zs, z.2.1 ≠ k) (hsz : zs.length + 1 ≤ 1000) :
    Calls Try.prog 27 #[.pointer (some ⟨Lb, 0, none⟩), .int .i64 k, .int .i64 a] W fun e w' => e = .returned (.tuple #[]) ∧ ∃ X F' v' es' ck', LA w' B0 Lb F' M room v' ((X, k, a) :: zs) es' ck' ∧ Below B0 W w' := by
  obtain ⟨w1, hw1⟩ : ∃ w1, W.alloc (.cells #[.int .i64 k, .int .i64 a] 57) = w1 := ⟨_, rfl⟩
  obtain ⟨X, hX⟩ : ∃ X, W.heap.size = X := ⟨_, rfl⟩
  have b1 : Below X W w1 := by rw [← hw1, ← hX]; exact (Below.refl _ _).alloc (Nat.le_refl _) _
  have hx1 : w1.heap[X]? = some (.cells #[.int .i64 k, .int .i64 a] 57 (0, 0)) := by rw [← hw1, ← hX]; exact heap_alloc_new _ _
  have H1 := Lib.hid (h.below (by rw [hX]; exact b1))
  have HX1 := Lib.hid hx1
  have HB1 := Lib.hid b1
  have HXX := Lib.hid hX
  have HB0 := Lib.hid (show B0 ≤ X by have := h.lo.1; have := h.l.lt; omega)
  have CA := Lib.hid (l_ahead Lb M F X room v (zs.map Prod.fst) w1 H1.out.l H1.out.f (by rw [List.length_map]; omega))
  have CI := Lib.hid (lr_itself k)
  have HN := Lib.hid hn
  have HK := Lib.hid hk
  have HSZ := Lib.hid hsz
  have HM := Lib.hid (g_lt h.m)
  have HNX := Lib.hid (show ∀ z ∈ zs, z.1 ≠ X from fun z hz e => by have := g_lt (h.t z hz); omega)
  have HW := Lib.hid hw1
  unfold ptr at CA
  clear h hk hn hsz hw1 b1 hx1
  go_enter Try.func27, Try.ntmps27
  go_wp2_with fail
  rw [HW.out]
  refine (CA.out).mono ?_
  rintro e w2 ⟨rfl, v2, F2, hl2, hf2, hv2, hb2⟩
  have HL2 := Lib.hid hl2
  have HF2 := Lib.hid hf2
  have HV2 := Lib.hid hv2
  have HB2 := Lib.hid hb2
  clear hl2 hf2 hv2 hb2
  go_wp2_with fail
  refine (CI.out w2).mono ?_
  rintro e w3 ⟨rfl, hb3⟩
  have hML : M ≠ Lb := fun e => by have h1 := H1.out.m; have h2 := H1.out.l; unfold LB at h2; rw [← e, h1] at h2; cases h2
  have HMLb := Lib.hid hML
  have hm3 : w3.heap[M]? = some (.map es.toArray ck) := (hb3.block M (by have := HB2.out.z; have := HB1.out.size; have := HM.out; omega)).trans ((HB2.out.o M (g_lt H1.out.m) hML (H1.out.f.apartM H1.out.m (fun cs T fr e => by cases e))).trans H1.out.m)
  have hl3 : LB w3 Lb room v2 M := (hb3.block Lb HL2.out.lt).trans HL2.out
  obtain ⟨c0, c1, c2, f1⟩ := hl3.cells
  have hlb3 := hl3.lt
  have hne : ∀ u : World, (binOp .eql 48 (.map (some M)) (.map none)).run Try.prog u = .ok (.bool false) u := fun u => by kernel_rfl
  obtain ⟨hup, hnk⟩ := H1.out.push HK.out HN.out w3 hm3 (ptr X)
  have HNK := Lib.hid hnk
  have HL3 := Lib.hid hl3
  have HF3 := Lib.hid (HF2.out.below hb3)
  have HM3 := Lib.hid hm3
  have HB3 := Lib.hid hb3
  unfold ptr at hup
  clear hm3 hl3 hnk hb3
  go_wp2_with fail
  have E := Lib.hid (show LA (setBlock w3 M (.map (es ++ [(⟨.int .i64 k, ptr X, ck⟩ : MapEntry)]).toArray (ck + 1))) B0 Lb F2 M room v2 ((X, k, a) :: zs) (es ++ [(⟨.int .i64 k, ptr X, ck⟩ : MapEntry)]) (ck + 1) ∧ Below B0 W (setBlock w3 M (.map (es ++ [(⟨.int .i64 k, ptr X, ck⟩ : MapEntry)]).toArray (ck + 1))) from by
    have hlo := H1.out.lo
    have hX1 : X < w1.heap.size := g_lt HX1.out
    -- what lay in w1 but for the list's block, its row and the map
    have old : ∀ Y, Y < w1.heap.size → Y ≠ Lb → fblk v ≠ some Y → w3.heap[Y]? = w1.heap[Y]? := fun Y hY h1 h2 => (HB3.out.block Y (by have := HB2.out.z; omega)).trans (HB2.out.o Y hY h1 h2)
    have hXL : X ≠ Lb := fun e => by have h1 := HX1.out; have h2 := H1.out.l; unfold LB at h2; rw [← e, h1] at h2; simp at h2
    have hXM : X ≠ M := fun e => by have h1 := HX1.out; have h2 := H1.out.m; rw [← e, h1] at h2; cases h2
    refine ⟨⟨(gs_heap (fun e => HMLb.out e.symm)).trans HL3.out, HF3.out.keep (fun Y hY => gs_heap (fun e => HF3.out.apartM HM3.out (fun cs T fr e => by cases e) (by rw [hY, e]))), ?_, ?_, ?_, ?_, gs_at (g_lt HM3.out), ?_, ?_, ?_, ⟨hlo.1, hlo.2.1, ?_, ?_⟩, by have := HSZ.out; simpa using this⟩, ?_⟩
    · intro z hz
      rcases List.mem_cons.1 hz with rfl | hz
      · exact (gs_heap hXM).trans ((old X hX1 hXL (H1.out.f.apart HX1.out (by decide))).trans HX1.out)
      · have ht := H1.out.t z hz
        have hzM : z.1 ≠ M := fun e => by have h2 := H1.out.m; rw [← e, ht] at h2; cases h2
        have hzL : z.1 ≠ Lb := fun e => by have h2 := H1.out.l; unfold LB at h2; rw [← e, ht] at h2; simp at h2
        exact (gs_heap hzM).trans ((old z.1 (g_lt ht) hzL (H1.out.f.apart ht (by decide))).trans ht)
    · rw [List.map_cons, List.nodup_cons]
      refine ⟨fun hm => ?_, H1.out.d⟩
      obtain ⟨z, hz, e⟩ := List.mem_map.1 hm
      exact HNX.out z hz e
    · rw [List.map_cons, List.nodup_cons]
      refine ⟨fun hm => ?_, H1.out.k⟩
      obtain ⟨z, hz, e⟩ := List.mem_map.1 hm
      exact HN.out z hz e
    · intro z hz
      rcases List.mem_cons.1 hz with rfl | hz
      · exact HK.out
      · exact H1.out.r z hz
    · intro e he
      rcases List.mem_append.1 he with he | he
      · obtain ⟨z, hz, h9⟩ := H1.out.e e he
        exact ⟨z, List.mem_cons_of_mem _ hz, h9⟩
      · rw [List.mem_singleton] at he
        subst he
        exact ⟨(X, k, a), List.mem_cons_self .., rfl, rfl⟩
    · intro z hz
      rcases List.mem_cons.1 hz with rfl | hz
      · exact ⟨(⟨.int .i64 k, ptr X, ck⟩ : MapEntry), by simp, rfl⟩
      · obtain ⟨e, he, h9⟩ := H1.out.a z hz
        exact ⟨e, List.mem_append_left _ he, h9⟩
    · intro i j x y hi hj e
      have li := (List.getElem?_eq_some_iff.1 hi).1
      have lj := (List.getElem?_eq_some_iff.1 hj).1
      rw [List.length_append, List.length_singleton] at li lj
      by_cases h1 : i < es.length
      · rw [List.getElem?_append_left h1] at hi
        by_cases h2 : j < es.length
        · rw [List.getElem?_append_left h2] at hj
          exact H1.out.u i j x y hi hj e
        · rw [List.getElem?_append_right (by omega), show j - es.length = 0 by omega] at hj
          simp at hj; subst hj
          exact absurd e (HNK.out x (List.mem_of_getElem? hi))
      · rw [List.getElem?_append_right (by omega), show i - es.length = 0 by omega] at hi
        simp at hi; subst hi
        by_cases h2 : j < es.length
        · rw [List.getElem?_append_left h2] at hj
          exact absurd e.symm (HNK.out y (List.mem_of_getElem? hj))
        · omega
    · intro Y hY
      rcases HF2.out.blk with h9 | h9
      · rw [h9] at hY; cases hY
      · rw [h9] at hY
        cases hY
        rcases HV2.out with ⟨rfl, h8⟩ | h8
        · exact hlo.2.2.1 _ h8
        · have := HB0.out; omega
    · intro z hz
      rcases List.mem_cons.1 hz with rfl | hz
      · exact HB0.out
      · exact hlo.2.2.2 z hz
    · have q1 := HB1.out.mono HB0.out
      have q2 := HB2.out.b B0 hlo.1 hlo.2.2.1 (by have := HB0.out; omega)
      have q3 := HB3.out.mono (show B0 ≤ w2.heap.size by have := HB2.out.z; have := HB0.out; omega)
      exact ((q1.trans q2).trans q3).trans (gs_below hlo.2.1))
  go_end0
  exact ⟨rfl, X, F2, v2, _, _, E.out.1, E.out.2⟩
set_option maxRecDepth 100000 in
set_option maxHeartbeats 8000000 in
theorem l_take (B0 Lb F M : Nat) (room : Int) (v : Value) (zs : List (Nat × Int × Int)) (es : List MapEntry) (ck j : Nat) (z : Nat × Int × Int) (W : World) (h : LA W B0 Lb F M room v zs es ck) (hz : zs[j]? = some z) :
    Calls Try.prog 28 #[.pointer (some ⟨Lb, 0, none⟩), ptr z.1] W fun e w' => e = .returned (.tuple #[.int .i64 z.2.2, .bool true]) ∧ ∃ v' es', LA w' B0 Lb F M room v' (zs.eraseIdx j) es' ck ∧ Below B0 W w' := by
  have CR := Lib.hid (l_remove Lb M F j z.1 room v (zs.map Prod.fst) W h.l h.f (by rw [List.length_map]; exact h.sz) (map_get hz).2 h.d h.things)
  have H := Lib.hid h
  have HZ := Lib.hid hz
  have HZM := Lib.hid (List.mem_of_getElem? hz)
  have CI := Lib.hid (lr_itself z.2.1)
  have HB0 := Lib.hid (show B0 ≤ W.heap.size by have := h.lo.1; have := h.l.lt; omega)
  have hML : M ≠ Lb := fun e => by have h1 := h.m; have h2 := h.l; unfold LB at h2; rw [← e, h1] at h2; cases h2
  have HML := Lib.hid hML
  obtain ⟨zx, zk, zv⟩ := z
  unfold ptr at CR ⊢
  simp only at CR CI ⊢
  clear h hz hML
  go_enter Try.func28, Try.ntmps28
  go_wp2_with fail
  refine (CR.out).mono ?_
  rintro e w1 ⟨rfl, v1, hl1, hf1, hv1, hb1⟩
  have HL1 := Lib.hid hl1
  have HF1 := Lib.hid hf1
  have HV1 := Lib.hid hv1
  have HB1 := Lib.hid hb1
  clear hl1 hf1 hv1 hb1
  have keep : ∀ z ∈ zs, w1.heap[z.1]? = some (.cells #[.int .i64 z.2.1, .int .i64 z.2.2] 57 (0, 0)) := fun z hz => by
    have ht := H.out.t z hz
    have hzL : z.1 ≠ Lb := fun e => by have h2 := H.out.l; unfold LB at h2; rw [← e, ht] at h2; simp at h2
    exact (HB1.out.o z.1 (g_lt ht) hzL (H.out.f.apart ht (by decide))).trans ht
  have hm1 : w1.heap[M]? = some (.map es.toArray ck) := (HB1.out.o M (g_lt H.out.m) HML.out (H.out.f.apartM H.out.m (fun cs T fr e => by cases e))).trans H.out.m
  have HKP := Lib.hid keep
  have HM1 := Lib.hid hm1
  have hz1 := keep _ HZM.out
  have c0 : w1.cell? ⟨zx, 0, none⟩ = some (.int .i64 zk) := by rw [cell_of_row _ _ _ _ _ _ hz1]; rfl
  have hzl := g_lt hz1
  simp only at hzl
  clear keep hm1 hz1
  go_wp2_with fail
  refine (CI.out w1).mono ?_
  rintro e w2 ⟨rfl, hb2⟩
  have HB2 := Lib.hid hb2
  have HL2 := Lib.hid (show LB w2 Lb room v1 M from (hb2.block Lb HL1.out.lt).trans HL1.out)
  have HM2 := Lib.hid ((hb2.block M (g_lt HM1.out)).trans HM1.out)
  have HZ2 := Lib.hid ((hb2.block zx hzl).trans (HKP.out _ HZM.out))
  obtain ⟨i, e0, hi, hek, hdel⟩ := H.out.del HZM.out w2.drew (HM2.out : w2.drew.heap[M]? = _) 0
  have HI := Lib.hid hi
  have HEK := Lib.hid hek
  have HD := Lib.hid (fun ty => (H.out.del HZM.out w2.drew (HM2.out : w2.drew.heap[M]? = _) ty))
  have hd2 : ∀ ty, (Builtin.delete_ #[48, 3] ty #[.map (some M), .int .i64 zk]).run Try.prog w2.drew = .ok (.tuple #[]) (setBlock w2.drew M (.map (es.eraseIdx i).toArray ck)) := fun ty => by
    obtain ⟨i', e', hi', hek', hdel'⟩ := HD.out ty
    have : i' = i := H.out.u i' i e' e0 hi' hi (by rw [hek', hek])
    subst this
    exact hdel'
  have HDD := Lib.hid hd2
  clear hb2 c0 hzl hdel hd2 hi hek HD
  have cM : ∀ w, w = w2.drew → w.cell? ⟨Lb, 2, none⟩ = some (.map (some M)) := fun w hw => by rw [hw]; exact HL2.out.cells.2.2.1
  have cK : ∀ w, w = w2.drew → w.cell? ⟨zx, 0, none⟩ = some (.int .i64 zk) := fun w hw => by rw [hw]; exact (by rw [cell_of_row _ _ _ _ _ _ HZ2.out]; rfl : w2.cell? ⟨zx, 0, none⟩ = some (.int .i64 zk))
  have HCM := Lib.hid cM
  have HCK := Lib.hid cK
  clear cM cK
  go_upto_region 3 with fail
  refine region_gate (fun w' => w' = w2.drew) 8 (by kernel_rfl) rfl (fun hHeld => ?_)
  refine gate_takeF (i := 0) (v := ?v1) rfl (by kernel_rfl) (by kernel_rfl) (by kernel_rfl) (by kernel_rfl) (fun _ _ _ h => h) (Or.inl ⟨by rfl, ?hy1⟩) (by assumption) ?rest1
  case hy1 => intro w hSw; clear hSw; go_simp; (first | done | with_reducible rfl)
  (try simp only [Act.put, List.getElem_toArray, List.getElem_cons_zero, List.getElem_cons_succ, List.setIfInBounds_toArray, List.set_cons_zero, List.set_cons_succ])
  refine gate_takeF (i := 1) (v := ?v2) rfl (by kernel_rfl) (by kernel_rfl) (by kernel_rfl) (by kernel_rfl) (fun _ _ _ h => h) (Or.inl ⟨by rfl, ?hy2⟩) (by assumption) ?rest2
  case hy2 => intro w hSw; clear hSw; go_simp; (first | done | with_reducible rfl)
  (try simp only [Act.put, List.getElem_toArray, List.getElem_cons_zero, List.getElem_cons_succ, List.setIfInBounds_toArray, List.set_cons_zero, List.set_cons_succ])
  refine gate_takeF (i := 2) (v := ?v3) rfl (by kernel_rfl) (by kernel_rfl) (by kernel_rfl) (by kernel_rfl) (fun _ _ _ h => h) (Or.inl ⟨by rfl, ?hy3⟩) (by assumption) ?rest3
  case hy3 => intro w hSw; clear hSw; go_simp; (first | done | with_reducible rfl)
  (try simp only [Act.put, List.getElem_toArray, List.getElem_cons_zero, List.getElem_cons_succ, List.setIfInBounds_toArray, List.set_cons_zero, List.set_cons_succ])
  refine gate_take (i := 3) (v := ?v4) rfl (by kernel_rfl) (by kernel_rfl) (by kernel_rfl) (by kernel_rfl) (by kernel_rfl) (fun _ _ _ h => h) (Or.inl ⟨by kernel_rfl, ?hy4⟩) (by assumption) ?rest4
  case hy4 => intro w hSw; subst hSw; have hcl := HCM.out _ rfl; go_simp; (first | done | with_reducible rfl)
  (try simp only [Act.put, List.getElem_toArray, List.getElem_cons_zero, List.getElem_cons_succ, List.setIfInBounds_toArray, List.set_cons_zero, List.set_cons_succ])
  refine gate_takeF (i := 4) (v := ?v5) rfl (by kernel_rfl) (by kernel_rfl) (by kernel_rfl) (by kernel_rfl) (fun _ _ _ h => h) (Or.inl ⟨by rfl, ?hy5⟩) (by assumption) ?rest5
  case hy5 => intro w hSw; clear hSw; go_simp; (first | done | with_reducible rfl)
  (try simp only [Act.put, List.getElem_toArray, List.getElem_cons_zero, List.getElem_cons_succ, List.setIfInBounds_toArray, List.set_cons_zero, List.set_cons_succ])
  refine gate_takeF (i := 5) (v := ?v6) rfl (by kernel_rfl) (by kernel_rfl) (by kernel_rfl) (by kernel_rfl) (fun _ _ _ h => h) (Or.inl ⟨by rfl, ?hy6⟩) (by assumption) ?rest6
  case hy6 => intro w hSw; clear hSw; go_simp; (first | done | with_reducible rfl)
  (try simp only [Act.put, List.getElem_toArray, List.getElem_cons_zero, List.getElem_cons_succ, List.setIfInBounds_toArray, List.set_cons_zero, List.set_cons_succ])
  refine gate_takeF (i := 6) (v := ?v7) rfl (by kernel_rfl) (by kernel_rfl) (by kernel_rfl) (by kernel_rfl) (fun _ _ _ h => h) (Or.inl ⟨by rfl, ?hy7⟩) (by assumption) ?rest7
  case hy7 => intro w hSw; clear hSw; go_simp; (first | done | with_reducible rfl)
  (try simp only [Act.put, List.getElem_toArray, List.getElem_cons_zero, List.getElem_cons_succ, List.setIfInBounds_toArray, List.set_cons_zero, List.set_cons_succ])
  refine gate_take (i := 7) (v := ?v8) rfl (by kernel_rfl) (by kernel_rfl) (by kernel_rfl) (by kernel_rfl) (by kernel_rfl) (fun _ _ _ h => h) (Or.inl ⟨by kernel_rfl, ?hy8⟩) (by assumption) ?rest8
  case hy8 => intro w hSw; subst hSw; have hcl := HCK.out _ rfl; go_simp; (first | done | with_reducible rfl)
  (try simp only [Act.put, List.getElem_toArray, List.getElem_cons_zero, List.getElem_cons_succ, List.setIfInBounds_toArray, List.set_cons_zero, List.set_cons_succ])
  refine gate_past (i := 8) rfl (by kernel_rfl) (by kernel_rfl) (fun K hK => ?_)
  refine step_del rfl _ _ _ _ rfl _ _ rfl rfl (HDD.out _) ?_
  refine hK.out _ _ ?_
  clear hK K
  (try simp only [Act.put, List.getElem_toArray, List.getElem_cons_zero, List.getElem_cons_succ, List.setIfInBounds_toArray, List.set_cons_zero, List.set_cons_succ])
  refine gate_done (by kernel_rfl) ?_ _
  clear hHeld
  obtain ⟨w3, hw3⟩ : ∃ w3, setBlock w2.drew M (.map (es.eraseIdx i).toArray ck) = w3 := ⟨_, rfl⟩
  have E := Lib.hid (show LA w3 B0 Lb F M room v1 (zs.eraseIdx j) (es.eraseIdx i) ck ∧ Below B0 W w3 from by
    have hlo := H.out.lo
    have hsub : ∀ z ∈ zs.eraseIdx j, z ∈ zs := fun z hz => List.mem_of_mem_eraseIdx hz
    have hML2 : Lb ≠ M := fun e => HML.out e.symm
    have ho : ∀ Y, Y ≠ M → w3.heap[Y]? = w2.heap[Y]? := fun Y hY => by rw [← hw3]; exact gs_heap hY
    have hfw : FR w2 F v1 ((zs.map Prod.fst).eraseIdx j) := HF1.out.below HB2.out
    refine ⟨⟨(ho Lb hML2).trans HL2.out, ?_, ?_, ?_, ?_, fun z hz => H.out.r z (hsub z hz), ?_, ?_, ?_, ?_, ⟨hlo.1, hlo.2.1, fun X hX => hlo.2.2.1 X (by rw [← HV1.out]; exact hX), fun z hz => hlo.2.2.2 z (hsub z hz)⟩, ?_⟩, ?_⟩
    · rw [map_erase]
      exact hfw.keep (fun Y hY => ho Y (fun e => hfw.apartM HM2.out (fun cs T fr e => by cases e) (by rw [hY, e])))
    · intro z hz
      have ht := HKP.out z (hsub z hz)
      have ht2 := (HB2.out.block z.1 (g_lt ht)).trans ht
      exact (ho z.1 (fun e => by have h2 := HM2.out; rw [← e, ht2] at h2; cases h2)).trans ht2
    · rw [map_erase]; exact H.out.d.sublist (List.eraseIdx_sublist _ _)
    · rw [map_erase]; exact H.out.k.sublist (List.eraseIdx_sublist _ _)
    · rw [← hw3]; exact gs_at (g_lt HM2.out)
    · intro e he
      obtain ⟨q, hq, hx⟩ := mem_erase.1 he
      obtain ⟨z, hz, h1, h2⟩ := H.out.e e (List.mem_of_getElem? hx)
      refine ⟨z, ?_, h1, h2⟩
      obtain ⟨r, hr⟩ := List.mem_iff_getElem?.1 hz
      refine mem_erase.2 ⟨r, fun er => hq ?_, hr⟩
      subst er
      rw [HZ.out] at hr
      cases hr
      exact H.out.u q i e e0 hx HI.out (by rw [h1, HEK.out])
    · intro z hz
      obtain ⟨r, hr, hx⟩ := mem_erase.1 hz
      obtain ⟨e, he, h1⟩ := H.out.a z (List.mem_of_getElem? hx)
      obtain ⟨q, hq⟩ := List.mem_iff_getElem?.1 he
      refine ⟨e, mem_erase.2 ⟨q, fun eq => hr ?_, hq⟩, h1⟩
      subst eq
      rw [HI.out] at hq
      cases hq
      rw [HEK.out] at h1
      have hk : zk = z.2.1 := by simpa using h1
      have hzz := H.out.same (List.mem_of_getElem? hx) HZM.out hk.symm
      subst hzz
      have e1 : (zs.map Prod.fst)[r]? = some zx := by rw [List.getElem?_map, hx]; rfl
      have e2 : (zs.map Prod.fst)[j]? = some zx := by rw [List.getElem?_map, HZ.out]; rfl
      exact nodup_getD H.out.d e1 e2
    · intro a b x y ha hb e
      rw [List.getElem?_eraseIdx] at ha hb
      split at ha <;> split at hb
      · exact H.out.u _ _ _ _ ha hb e
      · have := H.out.u _ _ _ _ ha hb e; omega
      · have := H.out.u _ _ _ _ ha hb e; omega
      · have := H.out.u _ _ _ _ ha hb e; omega
    · have := H.out.sz; rw [List.length_eraseIdx]; split <;> omega
    · have q1 := HB1.out.b B0 hlo.1 hlo.2.2.1 HB0.out
      have q2 := HB2.out.mono (show B0 ≤ w1.heap.size by have := HB1.out.z; have := HB0.out; omega)
      rw [← hw3]
      exact (q1.trans q2).trans (((Below.refl B0 w2).drew).trans (gs_below hlo.2.1)))
  have hz3 : w3.heap[zx]? = some (.cells #[.int .i64 zk, .int .i64 zv] 57 (0, 0)) := by
    rw [← hw3]
    exact (gs_heap (fun e => by have h2 := HM2.out; rw [← e, HZ2.out] at h2; cases h2)).trans HZ2.out
  have d1 : w3.cell? ⟨zx, 1, none⟩ = some (.int .i64 zv) := by rw [cell_of_row _ _ _ _ _ _ hz3]; rfl
  have hzl := g_lt hz3
  rw [hw3]
  clear hw3 hz3
  go_wp2_with fail
  go_ret2
  exact ⟨rfl, v1, _, E.out.1, E.out.2⟩
set_option maxRecDepth 100000 in
set_option maxHeartbeats 4000000 in
theorem l_del (B0 Lb : Nat) (room : Int) (s : List (Int × Int)) (k : Int) (W : World) (h : Lru W B0 Lb room s) (hk : -9223372036854775808 ≤ k ∧ k ≤ 9223372036854775807) :
    Calls Try.prog 16 #[.pointer (some ⟨Lb, 0, none⟩), .int .i64 k] W fun e w' => e = .returned (.tuple #[.int .i64 (valN s k).1, .bool (valN s k).2]) ∧ Lru w' B0 Lb room (delN s k) ∧ Below B0 W w' := by
  obtain ⟨F, M, v, zs, es, ck, h, rfl⟩ := h
  have CF := Lib.hid (l_find B0 Lb F M room v zs es ck k W h hk)
  have H := Lib.hid h
  have HB0 := Lib.hid (show B0 ≤ W.heap.size by have := h.lo.1; have := h.l.lt; omega)
  clear h hk
  go_enter Try.func16, Try.ntmps16
  go_wp2_with fail
  refine (CF.out).mono ?_
  rintro e w1 ⟨rfl, hb1⟩
  have H1 := Lib.hid (H.out.below hb1)
  have HB := Lib.hid hb1
  clear hb1
  cases hv : vidx (zs.map Prod.snd) k with
  | none =>
    have HV := Lib.hid (valN_none hv)
    have HG := Lib.hid (delN_none hv)
    rw [show pfind zs none = .pointer none from rfl]
    clear hv
    go_wp2_with fail
    refine (l_nothing _).mono ?_
    rintro e w2 ⟨rfl, rfl⟩
    go_wp2_with fail
    go_ret2
    exact ⟨by rw [HV.out]; rfl, by rw [HG.out]; exact ⟨F, M, v, zs, es, ck, H1.out, rfl⟩, HB.out.mono HB0.out⟩
  | some j =>
    obtain ⟨z, hz, hzk⟩ := zidx hv
    have HV := Lib.hid (valN_some hv (map_get hz).1)
    have HG := Lib.hid (delN_some hv)
    have CT := Lib.hid (l_take B0 Lb F M room v zs es ck j z w1 H1.out hz)
    rw [pfind_some hz]
    unfold ptr at CT ⊢
    clear hz hv hzk
    go_wp2_with fail
    refine (CT.out).mono ?_
    rintro e w2 ⟨rfl, v2, es2, h2, hb2⟩
    have H2 := Lib.hid h2
    have HB2 := Lib.hid hb2
    clear h2 hb2
    go_wp2_with fail
    go_ret2
    exact ⟨by rw [HV.out]; rfl, by rw [HG.out]; exact ⟨F, M, v2, _, es2, ck, H2.out, by rw [map_erase]⟩, (HB.out.mono HB0.out).trans HB2.out⟩
end Go.Proofs.Ytncpikaegcookaa
