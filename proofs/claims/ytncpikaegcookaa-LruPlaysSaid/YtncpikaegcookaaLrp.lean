/- lru: Put. By program (genlrp.py). -/
import Derived.Test.YtncpikaegcookaaLrn
import Derived.Test.YtncpikaegcookaaGatet
namespace Go.Proofs.Ytncpikaegcookaa
open Go.ChangeShapes Go.WideShapes Go.ChangeAt Go.RowKit
set_option linter.unusedVariables false
open Go.WideMaps Go.MapKept Go.WideElems Go.ChangeMaps Go.Maps
set_option linter.unusedSimpArgs false
def putL (room : Int) (s : List (Int × Int)) (k a : Int) : List (Int × Int) := match vidx s k with
  | some j => (k, a) :: s.eraseIdx j
  | none => if (s.length : Int) + 1 ≤ room then (k, a) :: s else ((k, a) :: s).eraseIdx s.length
def putV (room : Int) (s : List (Int × Int)) (k a : Int) : Int × Bool := match vidx s k with
  | some _ => valN s k
  | none => if (s.length : Int) + 1 ≤ room then (0, false) else ((((k, a) :: s)[s.length]?.getD (0, 0)).2, true)
theorem putL_some {room : Int} {s : List (Int × Int)} {k a : Int} {j : Nat} (h : vidx s k = some j) : putL room s k a = (k, a) :: s.eraseIdx j ∧ putV room s k a = valN s k := by unfold putL putV; rw [h]; exact ⟨rfl, rfl⟩
theorem putL_room {room : Int} {s : List (Int × Int)} {k a : Int} (h : vidx s k = none) (hr : (s.length : Int) + 1 ≤ room) : putL room s k a = (k, a) :: s ∧ putV room s k a = (0, false) := by unfold putL putV; rw [h]; simp only [hr, if_true]; exact ⟨trivial, trivial⟩
theorem putL_full {room : Int} {s : List (Int × Int)} {k a : Int} (h : vidx s k = none) (hr : ¬ (s.length : Int) + 1 ≤ room) : putL room s k a = ((k, a) :: s).eraseIdx s.length ∧ putV room s k a = ((((k, a) :: s)[s.length]?.getD (0, 0)).2, true) := by unfold putL putV; rw [h]; simp only [hr, if_false]; exact ⟨trivial, trivial⟩
/-- The first thing's value is set. -/
theorem LA.setv {w : World} {B0 Lb F M : Nat} {room : Int} {v : Value} {z : Nat × Int × Int} {zs : List (Nat × Int × Int)} {es : List MapEntry} {ck : Nat} (h : LA w B0 Lb F M room v (z :: zs) es ck) (a : Int) : LA (w.setCell ⟨z.1, 1, none⟩ (.int .i64 a)) B0 Lb F M room v ((z.1, z.2.1, a) :: zs) es ck := by
  have hz := h.t z (List.mem_cons_self ..)
  have hzL : Lb ≠ z.1 := fun e => by have h2 := h.l; unfold LB at h2; rw [e, hz] at h2; simp at h2
  have hzM : M ≠ z.1 := fun e => by have h2 := h.m; rw [e, hz] at h2; cases h2
  have ho : ∀ Y, Y ≠ z.1 → (w.setCell ⟨z.1, 1, none⟩ (.int .i64 a)).heap[Y]? = w.heap[Y]? := fun Y hY => heap_setCell_other w ⟨z.1, 1, none⟩ Y _ hY
  refine ⟨(ho Lb hzL).trans h.l, ?_, ?_, h.d, h.k, ?_, (ho M hzM).trans h.m, ?_, ?_, h.u, ⟨h.lo.1, h.lo.2.1, h.lo.2.2.1, ?_⟩, h.sz⟩
  · exact h.f.keep (fun X hX => ho X (fun e => h.f.apart hz (by decide) (by rw [hX, e])))
  · intro y hy
    rcases List.mem_cons.1 hy with rfl | hy
    · rw [row_set1 hz]; rfl
    · have hne : y.1 ≠ z.1 := fun e => by
        have := h.d
        rw [List.map_cons, List.nodup_cons] at this
        exact this.1 (by rw [← e]; exact List.mem_map.2 ⟨y, hy, rfl⟩)
      exact (ho y.1 hne).trans (h.t y (List.mem_cons_of_mem _ hy))
  · intro y hy
    rcases List.mem_cons.1 hy with rfl | hy
    · exact h.r z (List.mem_cons_self ..)
    · exact h.r y (List.mem_cons_of_mem _ hy)
  · intro e he
    obtain ⟨y, hy, h1, h2⟩ := h.e e he
    rcases List.mem_cons.1 hy with rfl | hy
    · exact ⟨_, List.mem_cons_self .., h1, h2⟩
    · exact ⟨y, List.mem_cons_of_mem _ hy, h1, h2⟩
  · intro y hy
    rcases List.mem_cons.1 hy with rfl | hy
    · exact h.a z (List.mem_cons_self ..)
    · exact h.a y (List.mem_cons_of_mem _ hy)
  · intro y hy
    rcases List.mem_cons.1 hy with rfl | hy
    · exact h.lo.2.2.2 z (List.mem_cons_self ..)
    · exact h.lo.2.2.2 y (List.mem_cons_of_mem _ hy)
/-- The row's cells. -/
theorem FR.at {w : World} {F : Nat} {v : Value} {ts : List Nat} (h : FR w F v ts) {j x : Nat} (hj : ts[j]? = some x) : ∃ cap, v = .slice (some ⟨F, 0, none⟩) ts.length cap ∧ ts.length ≤ cap ∧ w.cell? ⟨F, j, none⟩ = some (ptr x) ∧ F < w.heap.size := by
  rcases h with ⟨rfl, rfl⟩ | ⟨cap, L, rfl, hF, hL, hc, -, -, -, ht⟩
  · simp at hj
  · exact ⟨cap, rfl, hc, hF.cell (ht j x hj), hF.lt⟩
set_option maxRecDepth 100000 in
set_option maxHeartbeats 8000000 in
theorem l_put (B0 Lb : Nat) (room : Int) (s : List (Int × Int)) (k a : Int) (W : World) (h : Lru W B0 Lb room s) (hk : -9223372036854775808 ≤ k ∧ k ≤ 9223372036854775807) (hs : s.length ≤ 64) :
    Calls Try.prog 14 #[.pointer (some ⟨Lb, 0, none⟩), .int .i64 k, .int .i64 a] W fun e w' => e = .returned (.tuple #[.int .i64 (putV room s k a).1, .bool (putV room s k a).2]) ∧ Lru w' B0 Lb room (putL room s k a) ∧ Below B0 W w' := by
  have CG := Lib.hid (l_get B0 Lb room s k W h hk)
  have HK := Lib.hid hk
  have HS := Lib.hid hs
  have HB0 := Lib.hid (show B0 ≤ W.heap.size ∧ Lb < W.heap.size by obtain ⟨F, M, v, zs, es, ck, h, -⟩ := h; have := h.lo.1; have := h.l.lt; omega)
  clear h hk hs
  go_enter Try.func14, Try.ntmps14
  go_wp2_with fail
  refine (CG.out).mono ?_
  rintro e w1 ⟨rfl, h1, hb1⟩
  have H1 := Lib.hid h1
  have HB1 := Lib.hid hb1
  clear h1 hb1
  cases hv : vidx s k with
  | some j =>
    obtain ⟨p, hp, hpk⟩ := vidx_some hv
    have HV := Lib.hid (valN_some hv hp)
    have HP := Lib.hid (putL_some (room := room) (a := a) hv)
    have H1' := H1.out
    rw [getN_some hv hp] at H1'
    obtain ⟨F, M, v, zs, es, ck, hA, he⟩ := H1'
    obtain ⟨z, zr, rfl⟩ : ∃ z zr, zs = z :: zr := by
      cases zs with
      | nil => cases he
      | cons z zr => exact ⟨z, zr, rfl⟩
    rw [List.map_cons, List.cons.injEq] at he
    obtain ⟨rfl, he2⟩ := he
    obtain ⟨cap, rfl, hcap, hcell, hF⟩ := hA.f.at (j := 0) (x := z.1) rfl
    obtain ⟨c0, c1, hlt, hfz⟩ := hA.val (List.mem_cons_self ..)
    obtain ⟨l0, l1, l2, -⟩ := hA.l.cells
    have hlb := hA.l.lt
    have E := Lib.hid (show Lru (w1.setCell ⟨z.1, 1, none⟩ (.int .i64 a)) B0 Lb room (putL room s k a) ∧ Below B0 W (w1.setCell ⟨z.1, 1, none⟩ (.int .i64 a)) from by
      refine ⟨⟨F, M, _, _, es, ck, hA.setv a, ?_⟩, HB1.out.setCell (p := ⟨z.1, 1, none⟩) (hA.lo.2.2.2 z (List.mem_cons_self ..)) _⟩
      rw [HP.out.1, List.map_cons, he2, hpk])
    have HV2 := Lib.hid (show valN s k = (z.2.2, true) from HV.out)
    rw [HV2.out]
    unfold ptr at hcell
    rw [List.length_map, List.length_cons] at hA l1 hcap

    have hn0 : (0 : Int) < ((zr.length + 1 : Nat) : Int) := by omega
    clear hv hp hpk hA he2 HV H1
    go_wp2_with fail
    go_ret2
    exact ⟨by rw [HP.out.2, HV2.out]; rfl, E.out.1, E.out.2⟩
  | none =>
    have HV := Lib.hid (valN_none hv)
    have H1' := H1.out
    rw [getN_none hv] at H1'
    obtain ⟨F, M, v, zs, es, ck, hA, rfl⟩ := H1'
    have hno : ∀ z ∈ zs, z.2.1 ≠ k := fun z hz e => vidx_none hv z.2 (List.mem_map.2 ⟨z, hz, rfl⟩) e
    have CA := Lib.hid (l_add B0 Lb F M room v zs es ck k a w1 hA HK.out hno (by have := HS.out; rw [List.length_map] at this; omega))
    rw [HV.out]
    have HVN := Lib.hid hv
    clear hv hA hno H1
    go_wp2_with fail
    refine (CA.out).mono ?_
    rintro e w2 ⟨rfl, X, F2, v2, es2, ck2, h2, hb2⟩
    have H2 := Lib.hid h2
    have HB2 := Lib.hid (HB1.out.trans hb2)
    have HZ := Lib.hid (show zs.length ≤ 64 by have := HS.out; rwa [List.length_map] at this)
    obtain ⟨l0, l1, l2, -⟩ := h2.l.cells
    have hlb := h2.l.lt
    obtain ⟨cap, hv2, hcap, hcell0, hF2⟩ := h2.f.at (j := 0) (x := X) rfl
    rw [List.length_map, List.length_cons] at hv2 hcap
    subst hv2
    have HC := Lib.hid hcap
    clear h2 hb2 hcell0 hcap
    go_upto_region 8 with fail
    refine wp_region_held_drew (S := fun w' => w' = w2.drew) (by kernel_rfl) rfl (fun hHeld => ?_)
    refine wpAnyH_take (i := 0) (v := ?v1) rfl (by kernel_rfl) (by kernel_rfl) (by kernel_rfl) (fun _ _ _ h => h) (Or.inl ⟨by kernel_rfl, ?hy1⟩) (by assumption) ?rest1
    case hy1 => intro w hSw; subst hSw; go_simp; (first | done | with_reducible rfl)
    (try simp only [Act.put, List.getElem_toArray, List.getElem_cons_zero, List.getElem_cons_succ, List.setIfInBounds_toArray, List.set_cons_zero, List.set_cons_succ])
    refine wpAnyH_take (i := 1) (v := ?v2) rfl (by kernel_rfl) (by kernel_rfl) (by kernel_rfl) (fun _ _ _ h => h) (Or.inl ⟨by kernel_rfl, ?hy2⟩) (by assumption) ?rest2
    case hy2 => intro w hSw; subst hSw; go_simp; (first | done | with_reducible rfl)
    (try simp only [Act.put, List.getElem_toArray, List.getElem_cons_zero, List.getElem_cons_succ, List.setIfInBounds_toArray, List.set_cons_zero, List.set_cons_succ])
    refine wpAnyH_take (i := 2) (v := ?v3) rfl (by kernel_rfl) (by kernel_rfl) (by kernel_rfl) (fun _ _ _ h => h) (Or.inl ⟨by kernel_rfl, ?hy3⟩) (by assumption) ?rest3
    case hy3 => intro w hSw; subst hSw; go_simp; (first | done | with_reducible rfl)
    (try simp only [Act.put, List.getElem_toArray, List.getElem_cons_zero, List.getElem_cons_succ, List.setIfInBounds_toArray, List.set_cons_zero, List.set_cons_succ])
    refine wpAnyH_take (i := 3) (v := ?v4) rfl (by kernel_rfl) (by kernel_rfl) (by kernel_rfl) (fun _ _ _ h => h) (Or.inl ⟨by kernel_rfl, ?hy4⟩) (by assumption) ?rest4
    case hy4 => intro w hSw; subst hSw; have hcl : w2.drew.cell? ⟨Lb, 1, none⟩ = _ := l1; go_simp; (first | done | with_reducible rfl)
    (try simp only [Act.put, List.getElem_toArray, List.getElem_cons_zero, List.getElem_cons_succ, List.setIfInBounds_toArray, List.set_cons_zero, List.set_cons_succ])
    refine wpAnyH_take (i := 4) (v := ?v5) rfl (by kernel_rfl) (by kernel_rfl) (by kernel_rfl) (fun _ _ _ h => h) (Or.inl ⟨by kernel_rfl, ?hy5⟩) (by assumption) ?rest5
    case hy5 => intro w hSw; subst hSw; go_simp; (first | done | with_reducible rfl)
    (try simp only [Act.put, List.getElem_toArray, List.getElem_cons_zero, List.getElem_cons_succ, List.setIfInBounds_toArray, List.set_cons_zero, List.set_cons_succ])
    refine wpAnyH_take (i := 5) (v := ?v6) rfl (by kernel_rfl) (by kernel_rfl) (by kernel_rfl) (fun _ _ _ h => h) (Or.inl ⟨by kernel_rfl, ?hy6⟩) (by assumption) ?rest6
    case hy6 => intro w hSw; subst hSw; go_simp; (first | done | with_reducible rfl)
    (try simp only [Act.put, List.getElem_toArray, List.getElem_cons_zero, List.getElem_cons_succ, List.setIfInBounds_toArray, List.set_cons_zero, List.set_cons_succ])
    refine wpAnyH_take (i := 6) (v := ?v7) rfl (by kernel_rfl) (by kernel_rfl) (by kernel_rfl) (fun _ _ _ h => h) (Or.inl ⟨by kernel_rfl, ?hy7⟩) (by assumption) ?rest7
    case hy7 => intro w hSw; subst hSw; go_simp; (first | done | with_reducible rfl)
    (try simp only [Act.put, List.getElem_toArray, List.getElem_cons_zero, List.getElem_cons_succ, List.setIfInBounds_toArray, List.set_cons_zero, List.set_cons_succ])
    refine wpAnyH_take (i := 7) (v := ?v8) rfl (by kernel_rfl) (by kernel_rfl) (by kernel_rfl) (fun _ _ _ h => h) (Or.inl ⟨by kernel_rfl, ?hy8⟩) (by assumption) ?rest8
    case hy8 => intro w hSw; subst hSw; go_simp; (first | done | with_reducible rfl)
    (try simp only [Act.put, List.getElem_toArray, List.getElem_cons_zero, List.getElem_cons_succ, List.setIfInBounds_toArray, List.set_cons_zero, List.set_cons_succ])
    refine wpAnyH_take (i := 8) (v := ?v9) rfl (by kernel_rfl) (by kernel_rfl) (by kernel_rfl) (fun _ _ _ h => h) (Or.inl ⟨by kernel_rfl, ?hy9⟩) (by assumption) ?rest9
    case hy9 => intro w hSw; subst hSw; have hcl : w2.drew.cell? ⟨Lb, 0, none⟩ = _ := l0; go_simp; (first | done | with_reducible rfl)
    (try simp only [Act.put, List.getElem_toArray, List.getElem_cons_zero, List.getElem_cons_succ, List.setIfInBounds_toArray, List.set_cons_zero, List.set_cons_succ])
    refine wpAnyH_take (i := 9) (v := ?v10) rfl (by kernel_rfl) (by kernel_rfl) (by kernel_rfl) (fun _ _ _ h => h) (Or.inl ⟨by kernel_rfl, ?hy10⟩) (by assumption) ?rest10
    case hy10 => intro w hSw; subst hSw; go_simp; (first | done | with_reducible rfl)
    (try simp only [Act.put, List.getElem_toArray, List.getElem_cons_zero, List.getElem_cons_succ, List.setIfInBounds_toArray, List.set_cons_zero, List.set_cons_succ])
    refine wpAnyH_done (by kernel_rfl) ?_ _
    clear hHeld
    by_cases hr : (zs.length : Int) + 1 ≤ room
    · have hd : decide ((zs.length : Int) + 1 ≤ room) = true := by simpa using hr
      have HP := Lib.hid (putL_room (a := a) HVN.out (by rw [List.length_map]; exact hr))
      go_wp2_with fail
      refine (l_nothing _).mono ?_
      rintro e w3 ⟨rfl, rfl⟩
      go_wp2_with fail
      go_ret2
      exact ⟨by rw [HP.out.2]; rfl, by rw [HP.out.1]; exact ⟨F2, M, _, _, es2, ck2, H2.out.below ((Below.refl _ _).drew), rfl⟩, HB2.out.trans ((Below.refl _ _).drew)⟩
    · have hd : decide ((zs.length : Int) + 1 ≤ room) = false := by simpa using hr
      have HP := Lib.hid (putL_full (a := a) HVN.out (by rw [List.length_map]; exact hr))
      obtain ⟨y, hy⟩ : ∃ y, ((X, k, a) :: zs)[zs.length]? = some y := ⟨_, List.getElem?_eq_getElem (by simp)⟩
      obtain ⟨cap', hv3, -, hcell, -⟩ := H2.out.f.at (j := zs.length) (x := y.1) (map_get hy).2
      have CT := Lib.hid (fun (u : World) (hu : LA u B0 Lb F2 M room (.slice (some ⟨F2, 0, none⟩) (zs.length + 1) cap) ((X, k, a) :: zs) es2 ck2) => l_take B0 Lb F2 M room _ _ es2 ck2 zs.length y u hu hy)
      have HY := Lib.hid (map_get hy).1
      have HYY := Lib.hid hy
      unfold ptr at hcell CT
      have HCE := Lib.hid hcell
      have hlt1 : (zs.length : Int) < (zs.length : Int) + 1 := by omega
      have WS2 : IntKind.i64.wrap (zs.length : Int) = (zs.length : Int) := by have := HZ.out; rw [IntKind.wrap_i64]; omega
      have hlt2 : zs.length < zs.length + 1 := by omega
      clear hy hcell hv3
      go_upto_region 10 with fail
      refine region_gate (fun w' => w' = w2.drew.drew) 13 (by kernel_rfl) rfl (fun hHeld => ?_)
      refine gate_takeF (i := 0) (v := ?v11) rfl (by kernel_rfl) (by kernel_rfl) (by kernel_rfl) (by kernel_rfl) (fun _ _ _ h => h) (Or.inl ⟨by rfl, ?hy11⟩) (by assumption) ?rest11
      case hy11 => intro w hSw; clear hSw; go_simp; (first | done | with_reducible rfl)
      (try simp only [Act.put, List.getElem_toArray, List.getElem_cons_zero, List.getElem_cons_succ, List.setIfInBounds_toArray, List.set_cons_zero, List.set_cons_succ])
      refine gate_takeF (i := 1) (v := ?v12) rfl (by kernel_rfl) (by kernel_rfl) (by kernel_rfl) (by kernel_rfl) (fun _ _ _ h => h) (Or.inl ⟨by rfl, ?hy12⟩) (by assumption) ?rest12
      case hy12 => intro w hSw; clear hSw; go_simp; (first | done | with_reducible rfl)
      (try simp only [Act.put, List.getElem_toArray, List.getElem_cons_zero, List.getElem_cons_succ, List.setIfInBounds_toArray, List.set_cons_zero, List.set_cons_succ])
      refine gate_takeF (i := 2) (v := ?v13) rfl (by kernel_rfl) (by kernel_rfl) (by kernel_rfl) (by kernel_rfl) (fun _ _ _ h => h) (Or.inl ⟨by rfl, ?hy13⟩) (by assumption) ?rest13
      case hy13 => intro w hSw; clear hSw; go_simp; (first | done | with_reducible rfl)
      (try simp only [Act.put, List.getElem_toArray, List.getElem_cons_zero, List.getElem_cons_succ, List.setIfInBounds_toArray, List.set_cons_zero, List.set_cons_succ])
      refine gate_takeF (i := 3) (v := ?v14) rfl (by kernel_rfl) (by kernel_rfl) (by kernel_rfl) (by kernel_rfl) (fun _ _ _ h => h) (Or.inl ⟨by rfl, ?hy14⟩) (by assumption) ?rest14
      case hy14 => intro w hSw; clear hSw; go_simp; (first | done | with_reducible rfl)
      (try simp only [Act.put, List.getElem_toArray, List.getElem_cons_zero, List.getElem_cons_succ, List.setIfInBounds_toArray, List.set_cons_zero, List.set_cons_succ])
      refine gate_takeT (i := 4) (v := ?v15) [12, 11] rfl (by kernel_rfl) (by kernel_rfl) (by kernel_rfl) (by kernel_rfl) (fun _ _ _ h => h) (Or.inl ⟨by kernel_rfl, ?hy15⟩) (by assumption) ?rest15
      case hy15 => intro w hSw; subst hSw; have hcl : w2.drew.drew.cell? ⟨Lb, 1, none⟩ = _ := l1; go_simp; (first | done | with_reducible rfl)
      (try simp only [Act.put, List.getElem_toArray, List.getElem_cons_zero, List.getElem_cons_succ, List.setIfInBounds_toArray, List.set_cons_zero, List.set_cons_succ])
      refine gate_takeF (i := 5) (v := ?v16) rfl (by kernel_rfl) (by kernel_rfl) (by kernel_rfl) (by kernel_rfl) (fun _ _ _ h => h) (Or.inl ⟨by rfl, ?hy16⟩) (by assumption) ?rest16
      case hy16 => intro w hSw; clear hSw; go_simp; (first | done | with_reducible rfl)
      (try simp only [Act.put, List.getElem_toArray, List.getElem_cons_zero, List.getElem_cons_succ, List.setIfInBounds_toArray, List.set_cons_zero, List.set_cons_succ])
      refine gate_takeF (i := 6) (v := ?v17) rfl (by kernel_rfl) (by kernel_rfl) (by kernel_rfl) (by kernel_rfl) (fun _ _ _ h => h) (Or.inl ⟨by rfl, ?hy17⟩) (by assumption) ?rest17
      case hy17 => intro w hSw; clear hSw; go_simp; (first | done | with_reducible rfl)
      (try simp only [Act.put, List.getElem_toArray, List.getElem_cons_zero, List.getElem_cons_succ, List.setIfInBounds_toArray, List.set_cons_zero, List.set_cons_succ])
      refine gate_takeF (i := 7) (v := ?v18) rfl (by kernel_rfl) (by kernel_rfl) (by kernel_rfl) (by kernel_rfl) (fun _ _ _ h => h) (Or.inl ⟨by rfl, ?hy18⟩) (by assumption) ?rest18
      case hy18 => intro w hSw; clear hSw; go_simp; (first | done | with_reducible rfl)
      (try simp only [Act.put, List.getElem_toArray, List.getElem_cons_zero, List.getElem_cons_succ, List.setIfInBounds_toArray, List.set_cons_zero, List.set_cons_succ])
      refine gate_takeT (i := 8) (v := ?v19) [12, 11, 10, 9] rfl (by kernel_rfl) (by kernel_rfl) (by kernel_rfl) (by kernel_rfl) (fun _ _ _ h => h) (Or.inl ⟨by kernel_rfl, ?hy19⟩) (by assumption) ?rest19
      case hy19 => intro w hSw; subst hSw; have hcl : w2.drew.drew.cell? ⟨Lb, 1, none⟩ = _ := l1; go_simp; (first | done | with_reducible rfl)
      (try simp only [Act.put, List.getElem_toArray, List.getElem_cons_zero, List.getElem_cons_succ, List.setIfInBounds_toArray, List.set_cons_zero, List.set_cons_succ])
      refine gate_takeF (i := 9) (v := ?v20) rfl (by kernel_rfl) (by kernel_rfl) (by kernel_rfl) (by kernel_rfl) (fun _ _ _ h => h) (Or.inl ⟨by rfl, ?hy20⟩) (by assumption) ?rest20
      case hy20 => intro w hSw; clear hSw; go_simp; (first | done | with_reducible rfl)
      (try simp only [Act.put, List.getElem_toArray, List.getElem_cons_zero, List.getElem_cons_succ, List.setIfInBounds_toArray, List.set_cons_zero, List.set_cons_succ])
      refine gate_takeF (i := 10) (v := ?v21) rfl (by kernel_rfl) (by kernel_rfl) (by kernel_rfl) (by kernel_rfl) (fun _ _ _ h => h) (Or.inl ⟨by rfl, ?hy21⟩) (by assumption) ?rest21
      case hy21 => intro w hSw; clear hSw; go_simp; (first | done | with_reducible rfl)
      (try simp only [Act.put, List.getElem_toArray, List.getElem_cons_zero, List.getElem_cons_succ, List.setIfInBounds_toArray, List.set_cons_zero, List.set_cons_succ])
      refine gate_takeF (i := 11) (v := ?v22) rfl (by kernel_rfl) (by kernel_rfl) (by kernel_rfl) (by kernel_rfl) (fun _ _ _ h => h) (Or.inl ⟨by rfl, ?hy22⟩) (by assumption) ?rest22
      case hy22 => intro w hSw; clear hSw; go_simp; (first | done | with_reducible rfl)
      (try simp only [Act.put, List.getElem_toArray, List.getElem_cons_zero, List.getElem_cons_succ, List.setIfInBounds_toArray, List.set_cons_zero, List.set_cons_succ])
      refine gate_takeT (i := 12) (v := ?v23) [] rfl (by kernel_rfl) (by kernel_rfl) (by kernel_rfl) (by kernel_rfl) (fun _ _ _ h => h) (Or.inl ⟨by kernel_rfl, ?hy23⟩) (by assumption) ?rest23
      case hy23 => intro w hSw; subst hSw; have hcl : w2.drew.drew.cell? ⟨F2, zs.length, none⟩ = _ := HCE.out; go_simp; (first | done | with_reducible rfl)
      (try simp only [Act.put, List.getElem_toArray, List.getElem_cons_zero, List.getElem_cons_succ, List.setIfInBounds_toArray, List.set_cons_zero, List.set_cons_succ])
      refine gate_past (i := 13) rfl (by kernel_rfl) (by kernel_rfl) (fun K hK => ?_)
      go_simp
      refine (CT.out _ (H2.out.below (((Below.refl _ _).drew).trans ((Below.refl _ _).drew)))).mono ?_
      rintro e w3 ⟨rfl, v3, es3, h3, hb3⟩
      have H3 := Lib.hid h3
      have HB3 := Lib.hid hb3
      clear h3 hb3
      (try go_wp2_with fail)
      refine hK.out _ _ ?_
      clear hK K hHeld
      (try simp only [Act.put, List.getElem_toArray, List.getElem_cons_zero, List.getElem_cons_succ, List.setIfInBounds_toArray, List.set_cons_zero, List.set_cons_succ])
      refine gate_takeP (i := 14) (v := ?v24) rfl (by kernel_rfl) (by kernel_rfl) (by kernel_rfl) (by kernel_rfl) (by kernel_rfl) (fun _ _ _ h => h) (Or.inl ⟨by kernel_rfl, ?hy24⟩) ?rest24
      case hy24 => intro w hSw; clear hSw; go_simp; (first | done | with_reducible rfl)
      (try simp only [Act.put, List.getElem_toArray, List.getElem_cons_zero, List.getElem_cons_succ, List.setIfInBounds_toArray, List.set_cons_zero, List.set_cons_succ])
      refine gate_takeP (i := 15) (v := ?v25) rfl (by kernel_rfl) (by kernel_rfl) (by kernel_rfl) (by kernel_rfl) (by kernel_rfl) (fun _ _ _ h => h) (Or.inl ⟨by kernel_rfl, ?hy25⟩) ?rest25
      case hy25 => intro w hSw; clear hSw; go_simp; (first | done | with_reducible rfl)
      (try simp only [Act.put, List.getElem_toArray, List.getElem_cons_zero, List.getElem_cons_succ, List.setIfInBounds_toArray, List.set_cons_zero, List.set_cons_succ])
      refine gate_takeP (i := 16) (v := ?v26) rfl (by kernel_rfl) (by kernel_rfl) (by kernel_rfl) (by kernel_rfl) (by kernel_rfl) (fun _ _ _ h => h) (Or.inl ⟨by kernel_rfl, ?hy26⟩) ?rest26
      case hy26 => intro w hSw; clear hSw; go_simp; (first | done | with_reducible rfl)
      (try simp only [Act.put, List.getElem_toArray, List.getElem_cons_zero, List.getElem_cons_succ, List.setIfInBounds_toArray, List.set_cons_zero, List.set_cons_succ])
      refine gate_takeP (i := 17) (v := ?v27) rfl (by kernel_rfl) (by kernel_rfl) (by kernel_rfl) (by kernel_rfl) (by kernel_rfl) (fun _ _ _ h => h) (Or.inl ⟨by kernel_rfl, ?hy27⟩) ?rest27
      case hy27 => intro w hSw; clear hSw; go_simp; (first | done | with_reducible rfl)
      (try simp only [Act.put, List.getElem_toArray, List.getElem_cons_zero, List.getElem_cons_succ, List.setIfInBounds_toArray, List.set_cons_zero, List.set_cons_succ])
      refine gate_done (by kernel_rfl) ?_ _
      go_wp2_with fail
      go_ret2
      have e9 : (((k, a) :: zs.map Prod.snd)[(zs.map Prod.snd).length]?.getD (0, 0)) = y.2 := by rw [List.length_map]; have := HY.out; rw [List.map_cons] at this; rw [this]; rfl
      exact ⟨by rw [HP.out.2, e9]; rfl, by rw [HP.out.1]; exact ⟨F2, M, v3, _, es3, ck2, H3.out, by rw [map_erase, List.length_map, List.map_cons]⟩, HB2.out.trans ((((Below.refl _ _).drew).trans ((Below.refl _ _).drew)).trans HB3.out)⟩
end Go.Proofs.Ytncpikaegcookaa
