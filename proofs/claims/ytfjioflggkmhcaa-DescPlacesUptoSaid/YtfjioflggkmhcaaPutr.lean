/- Reference 13's Put, of any tree and any path that is there. -/
import Derived.Test.YtfjioflggkmhcaaLay
import Derived.Test.YtfjioflggkmhcaaGated
import Derived.Deep.DrawnRows
namespace Go.Proofs.Ytfjioflggkmhcaa
open Go.ChangeShapes Go.WideShapes Go.ChangeAt Go.RowKit
set_option linter.unusedVariables false
set_option linter.unusedSimpArgs false
theorem put_start (W : World) (k n k' n' : Int) (v v' : Value) : ∃ w0 : World, w0 = ((W.alloc (.cells #[.int .i64 k, .int .i64 n, v] 24)).alloc (.cells #[.int .i64 k', .int .i64 n', v'] 24)).alloc (.cells #[.int .i64 0, .int .i64 0, .slice none 0 0] 24) ∧ w0.heap[W.heap.size]? = some (.cells #[.int .i64 k, .int .i64 n, v] 24 (0, 0)) ∧ w0.heap[W.heap.size + 1]? = some (.cells #[.int .i64 k', .int .i64 n', v'] 24 (0, 0)) ∧ w0.heap[W.heap.size + 1 + 1]? = some (.cells #[.int .i64 0, .int .i64 0, .slice none 0 0] 24 (0, 0)) ∧ Below W.heap.size W w0 ∧ w0.heap.size = W.heap.size + 1 + 1 + 1 := by
  have h1 := heap_alloc_new W (.cells #[.int .i64 k, .int .i64 n, v] 24)
  have h2 := heap_alloc_new (W.alloc (.cells #[.int .i64 k, .int .i64 n, v] 24)) (.cells #[.int .i64 k', .int .i64 n', v'] 24)
  have h3 := heap_alloc_new ((W.alloc (.cells #[.int .i64 k, .int .i64 n, v] 24)).alloc (.cells #[.int .i64 k', .int .i64 n', v'] 24)) (.cells #[.int .i64 0, .int .i64 0, .slice none 0 0] 24)
  simp only [World.size_alloc] at h2 h3
  refine ⟨_, rfl, ?_, ?_, h3, (((Below.refl _ _).alloc (Nat.le_refl _) _).alloc (by simp) _).alloc (by simp; omega) _, by simp⟩
  · rw [Below.heap_alloc _ _ _ (by simp; omega), Below.heap_alloc _ _ _ (by simp)]; exact h1
  · rw [Below.heap_alloc _ _ _ (by simp)]; exact h2
set_option maxRecDepth 100000 in
set_option maxHeartbeats 4000000 in
theorem r13_putmore (k n k' n' y1 y2 : Int) (ks Y : Fo) (g h m c m' c' i : Nat) (p' : Option Addr) (b o t d lim : Nat) (W : World) (hK : Kids W lim (.slice (some ⟨g, h, none⟩) m c) ks) (hm1 : m ≤ 1048576) (hi : i < m) (ht : t ≤ 17592186044415) (hd : t ≤ d + 1) (hd2 : d ≤ 9223372036854775807)
    (hP : W.cell? ⟨b, o, none⟩ = some (.int .i64 (i : Int))) (hl : lim ≤ W.heap.size)
    (CL : ∀ (kj nj : Int) (vj : Value) w', Below W.heap.size W w' → kj = ks.k i → nj = ks.n i → Kids w' lim vj (ks.kids i) → Calls Try.prog 28 #[.agg #[.int .i64 kj, .int .i64 nj, vj], (.slice (some ⟨b, o + 1, none⟩) t (d + 1)), .agg #[.int .i64 k', .int .i64 n', .slice p' m' c']] w' fun e w'' => ∃ u, e = .returned (.agg #[.int .i64 y1, .int .i64 y2, u]) ∧ KidsS w'' (fun b => b < w''.heap.size ∧ (b < lim ∨ w'.heap.size ≤ b)) u Y ∧ Below w'.heap.size w' w'') :
    Calls Try.prog 28 #[.agg #[.int .i64 k, .int .i64 n, .slice (some ⟨g, h, none⟩) m c], (.slice (some ⟨b, o, none⟩) (t + 1) (d + 2)), .agg #[.int .i64 k', .int .i64 n', .slice p' m' c']] W fun e w' => ∃ u, e = .returned (.agg #[.int .i64 k, .int .i64 n, u]) ∧ KidsS w' (fun b => b < w'.heap.size ∧ (b < lim ∨ W.heap.size ≤ b)) u (ks.setk i y1 y2 Y) ∧ Below W.heap.size W w' := by
  obtain ⟨w0, hw0, r0, r1, r2, hB0, hs0⟩ := put_start W k n k' n' (.slice (some ⟨g, h, none⟩) m c) (.slice p' m' c')
  obtain ⟨w1, hw1⟩ : ∃ w1, w0.alloc (.cells #[.int .i64 k, .int .i64 n, .slice none 0 0] 24) = w1 := ⟨_, rfl⟩
  have hn1 := heap_alloc_new w0 (.cells #[.int .i64 k, .int .i64 n, .slice none 0 0] 24)
  rw [hw1, hs0] at hn1
  have hB1 : Below w0.heap.size w0 w1 := by rw [← hw1]; exact (Below.refl _ _).alloc (Nat.le_refl _) _
  have hs1 : w1.heap.size = W.heap.size + 4 := by rw [← hw1]; simp; omega
  have hB := hB0.trans (hB1.mono (by omega))
  obtain ⟨x0, x1, x2, _, _, _⟩ := row_cells3 r0
  have lP := block_lt_of_cell hP
  have hml : m = ks.len := by obtain ⟨_, _, e, _⟩ := hK; cases e; rfl
  have R0 := Lib.hid (fun w (hb : Below (W.heap.size + 1 + 1 + 1) w1 w) => row_cells3 ((hb.block W.heap.size (by omega)).trans ((hB1.block _ (by omega)).trans r0)))
  have R1 := Lib.hid (fun w (hb : Below (W.heap.size + 1 + 1 + 1) w1 w) => row_cells3 ((hb.block (W.heap.size + 1) (by omega)).trans ((hB1.block _ (by omega)).trans r1)))
  have R2 := Lib.hid (fun w (hb : Below (W.heap.size + 1 + 1 + 1) w1 w) => (hb.block (W.heap.size + 1 + 1) (by omega)).trans ((hB1.block _ (by omega)).trans r2))
  have RP := Lib.hid (fun w (hb : Below (W.heap.size + 1 + 1 + 1) w1 w) => ((hb.cell (p := ⟨b, o, none⟩) (show b < W.heap.size + 1 + 1 + 1 by have : b < W.heap.size := lP; omega)).trans ((hB.cell (p := ⟨b, o, none⟩) lP).trans hP)))
  have RK := Lib.hid (fun w (hb : Below (W.heap.size + 1 + 1 + 1) w1 w) => (hK.carry (hB.mono hl)).carry (hb.mono (show lim ≤ W.heap.size + 1 + 1 + 1 by omega)))
  have CL := Lib.hid CL
  have HO1 := Lib.hid (OwnT.nil w1 lim (W.heap.size + 4))
  have HN1 := Lib.hid hn1
  obtain ⟨G, hG⟩ : ∃ G, ks.setk i y1 y2 Y = G := ⟨_, rfl⟩
  have hGl : G.len = m := by rw [← hG, setk_len]; exact hml.symm
  have GS := Lib.hid (show G.k i = y1 ∧ G.n i = y2 ∧ G.kids i = Y by rw [← hG]; exact setk_same ks i y1 y2 Y (by omega))
  have GO := Lib.hid (fun t (ht : t ≠ i) => (show G.k t = ks.k t ∧ G.n t = ks.n t ∧ G.kids t = ks.kids t by rw [← hG]; exact setk_other ks i t y1 y2 Y ht))
  have GT := Lib.hid (fun j (hj : j < m) => top_take G j (by omega))
  have GA := Lib.hid (show G.top.take m = G.top by rw [← hGl]; exact top_take_all G)
  have TLL := Lib.hid (fun j => (List.length_take_le j G.top))
  have HBW := Lib.hid hB
  rw [hG]
  clear hG r0 r1 r2 hn1 hP hK hB1 hml
  have e1 : (((t + 1 : Nat) : Int) == 0) = false := by simp; omega
  have e1' : ((t : Int) + 1 == 0) = false := by simp; omega
  have e2 : decide (1 ≤ t + 1) = true := decide_eq_true (by omega)
  have e3 : (1 : Int) ≤ (t : Int) + 1 := by omega
  go_enter Try.func28, Try.ntmps28
  go_wp2_with fail
  rw [← hw0]
  clear hw0
  go_wp2_with fail
  rw [hw1]
  clear hw1 hB0 hs0 x0 x1 x2
  go_loopw [8] (fun x wr => ∃ j : Nat, j ≤ m ∧ x = .int .i64 j ∧ ∃ v, Hid (wr.heap[W.heap.size + 1 + 1 + 1]? = some (.cells #[.int .i64 k, .int .i64 n, v] 24 (0, 0))) ∧ Hid (OwnT wr lim (W.heap.size + 4) v (G.top.take j)) ∧ Hid (Below (W.heap.size + 1 + 1 + 1) w1 wr)) (fun x _ => m - (intOf x).toNat)
  case atStart => exact ⟨0, Nat.zero_le _, rfl, _, HN1, Lib.hid (by rw [List.take_zero]; exact HO1.out), Lib.hid (Below.refl _ _)⟩
  case round =>
    clear HO1 HN1
    obtain ⟨j, hj, rfl, v, HX, HO, HB⟩ := hrel
    obtain ⟨vp, vn, vc, rfl⟩ := HO.out.form
    obtain ⟨e0, e1, e2, _, _, _⟩ := R0.out _ HB.out
    obtain ⟨s0, s1, s2, _, _, _⟩ := R1.out _ HB.out
    obtain ⟨o0, o1, o2, f0, f1, f2⟩ := row_cells3 HX.out
    have pc := RP.out _ HB.out
    by_cases hlt : j < m
    · have dd : decide ((j : Int) < (m : Int)) = true := decide_eq_true (by omega)
      obtain ⟨b', o', vj, ee, hb', g0, g1, g2, hKj⟩ := (RK.out _ HB.out).get hlt
      cases ee
      obtain ⟨kj, hkj⟩ : ∃ z, ks.k j = z := ⟨_, rfl⟩
      obtain ⟨nj, hnj⟩ : ∃ z, ks.n j = z := ⟨_, rfl⟩
      obtain ⟨Kj, hKj2⟩ : ∃ z, ks.kids j = z := ⟨_, rfl⟩
      rw [hkj] at g0
      rw [hnj] at g1
      rw [hKj2] at hKj
      obtain ⟨pj, cj, rfl, _, _⟩ := hKj.form
      obtain ⟨mj, hmj⟩ : ∃ z, Kj.len = z := ⟨_, rfl⟩
      rw [hmj] at g2 hKj
      have HJ := Lib.hid (And.intro hkj (And.intro hnj hKj2))
      have HKj := Lib.hid (fun w' (hb : Below (W.heap.size + 1 + 1 + 1) w1 w') => ((KidsS.of hKj).carry (w' := w') (fun x hx => ⟨hx, (hb.block x (by omega)).trans (HB.out.block x (by omega)).symm⟩)).to (fun _ h => h))
      clear hkj hnj hKj2 hmj hKj
      have TT := Lib.hid (GT.out j hlt)
      have TL := Lib.hid (show (G.top.take j).length ≤ 1048576 by have := TLL.out j; omega)
      have MS := Lib.hid (fun w' (hb : Below (W.heap.size + 1 + 1 + 1) w1 w') (hx : w'.heap[W.heap.size + 1 + 1 + 1]? = some (.cells #[.int .i64 k, .int .i64 n, .slice vp vn vc] 24 (0, 0))) => (show w'.cell? ⟨W.heap.size + 1 + 1 + 1, 2, none⟩ = some (.slice vp vn vc) ∧ w'.cell? ⟨W.heap.size, 2, none⟩ = some (.slice (some ⟨g, h, none⟩) m c) ∧ w'.cell? ⟨g, h + j * 3, none⟩ = some (.int .i64 kj) ∧ w'.cell? ⟨g, h + j * 3 + 1, none⟩ = some (.int .i64 nj) ∧ w'.cell? ⟨g, h + j * 3 + 2, none⟩ = some (.slice pj mj cj) ∧ w'.cell? ⟨W.heap.size + 1, 0, none⟩ = some (.int .i64 k') ∧ w'.cell? ⟨W.heap.size + 1, 1, none⟩ = some (.int .i64 n') ∧ w'.cell? ⟨W.heap.size + 1, 2, none⟩ = some (.slice p' m' c') from ⟨(row_cells3 hx).2.2.1, (R0.out w' hb).2.2.1, (hb.cell (p := ⟨g, _, none⟩) (show g < W.heap.size + 1 + 1 + 1 by omega)).trans ((HB.out.cell (p := ⟨g, _, none⟩) (show g < W.heap.size + 1 + 1 + 1 by omega)).symm.trans g0), (hb.cell (p := ⟨g, _, none⟩) (show g < W.heap.size + 1 + 1 + 1 by omega)).trans ((HB.out.cell (p := ⟨g, _, none⟩) (show g < W.heap.size + 1 + 1 + 1 by omega)).symm.trans g1), (hb.cell (p := ⟨g, _, none⟩) (show g < W.heap.size + 1 + 1 + 1 by omega)).trans ((HB.out.cell (p := ⟨g, _, none⟩) (show g < W.heap.size + 1 + 1 + 1 by omega)).symm.trans g2), (R1.out w' hb).1, (R1.out w' hb).2.1, (R1.out w' hb).2.2.1⟩))
      generalize G.top.take j = L at *
      by_cases hji : j = i
      · subst hji
        have de : ((j : Int) == (j : Int)) = true := by simp
        obtain ⟨t0, t1, t2⟩ := GS.out
        rw [t0, t1, t2] at TT
        go_wp2_with fail
        have HO4 := Lib.hid (HO.out.below (Below.refl _ _).drew)
        have HB4 := Lib.hid (HB.out.drew)
        have HX4 := Lib.hid (show wr.drew.heap[W.heap.size + 1 + 1 + 1]? = _ from HX.out)
        refine region_gate (fun w' => w'.cell? ⟨W.heap.size + 1 + 1 + 1, 2, none⟩ = some (.slice vp vn vc) ∧ w'.cell? ⟨W.heap.size, 2, none⟩ = some (.slice (some ⟨g, h, none⟩) m c) ∧ w'.cell? ⟨g, h + j * 3, none⟩ = some (.int .i64 kj) ∧ w'.cell? ⟨g, h + j * 3 + 1, none⟩ = some (.int .i64 nj) ∧ w'.cell? ⟨g, h + j * 3 + 2, none⟩ = some (.slice pj mj cj) ∧ w'.cell? ⟨W.heap.size + 1, 0, none⟩ = some (.int .i64 k') ∧ w'.cell? ⟨W.heap.size + 1, 1, none⟩ = some (.int .i64 n') ∧ w'.cell? ⟨W.heap.size + 1, 2, none⟩ = some (.slice p' m' c')) 14 (by kernel_rfl) (MS.out _ HB4.out HX4.out) (fun hHeld => ?_)
        clear o0 o1 o2 f0 f1 f2 e0 e1 e2 g0 g1 g2 s0 s1 s2
        generalize wr.drew = u4 at *
        refine gate_takeF (i := 0) (v := ?v1) rfl (by kernel_rfl) (by kernel_rfl) (by kernel_rfl) (by kernel_rfl) (fun _ _ _ h => h) (Or.inl ⟨by rfl, ?hy1⟩) (by assumption) ?rest1
        case hy1 => intro w hSw; clear hSw; go_simp; (first | done | with_reducible rfl)
        (try simp only [Act.put, List.setIfInBounds_toArray, List.set_cons_zero, List.set_cons_succ])
        refine gate_take (i := 1) (v := ?v2) rfl (by kernel_rfl) (by kernel_rfl) (by kernel_rfl) (by kernel_rfl) (by kernel_rfl) (fun _ _ _ h => h) (Or.inl ⟨by rfl, ?hy2⟩) (by assumption) ?rest2
        case hy2 => intro w hSw; (try dsimp only at hSw); go_simp; (first | done | with_reducible rfl)
        (try simp only [Act.put, List.setIfInBounds_toArray, List.set_cons_zero, List.set_cons_succ])
        refine gate_takeF (i := 2) (v := ?v3) rfl (by kernel_rfl) (by kernel_rfl) (by kernel_rfl) (by kernel_rfl) (fun _ _ _ h => h) (Or.inl ⟨by rfl, ?hy3⟩) (by assumption) ?rest3
        case hy3 => intro w hSw; clear hSw; go_simp; (first | done | with_reducible rfl)
        (try simp only [Act.put, List.setIfInBounds_toArray, List.set_cons_zero, List.set_cons_succ])
        refine gate_take (i := 3) (v := ?v4) rfl (by kernel_rfl) (by kernel_rfl) (by kernel_rfl) (by kernel_rfl) (by kernel_rfl) (fun _ _ _ h => h) (Or.inl ⟨by rfl, ?hy4⟩) (by assumption) ?rest4
        case hy4 => intro w hSw; (try dsimp only at hSw); go_simp; (first | done | with_reducible rfl)
        (try simp only [Act.put, List.setIfInBounds_toArray, List.set_cons_zero, List.set_cons_succ])
        refine gate_takeF (i := 4) (v := ?v5) rfl (by kernel_rfl) (by kernel_rfl) (by kernel_rfl) (by kernel_rfl) (fun _ _ _ h => h) (Or.inl ⟨by rfl, ?hy5⟩) (by assumption) ?rest5
        case hy5 => intro w hSw; clear hSw; go_simp; (first | done | with_reducible rfl)
        (try simp only [Act.put, List.setIfInBounds_toArray, List.set_cons_zero, List.set_cons_succ])
        refine gate_takeF (i := 5) (v := ?v6) rfl (by kernel_rfl) (by kernel_rfl) (by kernel_rfl) (by kernel_rfl) (fun _ _ _ h => h) (Or.inl ⟨by rfl, ?hy6⟩) (by assumption) ?rest6
        case hy6 => intro w hSw; clear hSw; go_simp; (first | done | with_reducible rfl)
        (try simp only [Act.put, List.setIfInBounds_toArray, List.set_cons_zero, List.set_cons_succ])
        refine gate_take (i := 6) (v := ?v7) rfl (by kernel_rfl) (by kernel_rfl) (by kernel_rfl) (by kernel_rfl) (by kernel_rfl) (fun _ _ _ h => h) (Or.inl ⟨by rfl, ?hy7⟩) (by assumption) ?rest7
        case hy7 => intro w hSw; (try dsimp only at hSw); go_simp; (first | done | with_reducible rfl)
        (try simp only [Act.put, List.setIfInBounds_toArray, List.set_cons_zero, List.set_cons_succ])
        refine gate_takeF (i := 7) (v := ?v8) rfl (by kernel_rfl) (by kernel_rfl) (by kernel_rfl) (by kernel_rfl) (fun _ _ _ h => h) (Or.inl ⟨by rfl, ?hy8⟩) (by assumption) ?rest8
        case hy8 => intro w hSw; clear hSw; go_simp; (first | done | with_reducible rfl)
        (try simp only [Act.put, List.setIfInBounds_toArray, List.set_cons_zero, List.set_cons_succ])
        refine gate_takeF (i := 8) (v := ?v9) rfl (by kernel_rfl) (by kernel_rfl) (by kernel_rfl) (by kernel_rfl) (fun _ _ _ h => h) (Or.inl ⟨by rfl, ?hy9⟩) (by assumption) ?rest9
        case hy9 => intro w hSw; clear hSw; go_simp; (first | done | with_reducible rfl)
        (try simp only [Act.put, List.setIfInBounds_toArray, List.set_cons_zero, List.set_cons_succ])
        refine gate_take (i := 9) (v := ?v10) rfl (by kernel_rfl) (by kernel_rfl) (by kernel_rfl) (by kernel_rfl) (by kernel_rfl) (fun _ _ _ h => h) (Or.inl ⟨by rfl, ?hy10⟩) (by assumption) ?rest10
        case hy10 => intro w hSw; (try dsimp only at hSw); go_simp; (first | done | with_reducible rfl)
        (try simp only [Act.put, List.setIfInBounds_toArray, List.set_cons_zero, List.set_cons_succ])
        have hs4 := HB4.out.size
        have HBW2 := Lib.hid (hB.trans ((HB4.out.mono (show W.heap.size ≤ W.heap.size + 1 + 1 + 1 by omega))))
        refine gate_one (i := 10) rfl (by kernel_rfl) (fun K hK => ?_)
        go_simp
        refine (CL.out kj nj _ _ HBW2.out HJ.out.1.symm HJ.out.2.1.symm (by rw [HJ.out.2.2]; exact HKj.out _ HB4.out) ).mono ?_
        rintro e u5 ⟨uy, rfl, hKy, b5⟩
        (try go_wp2_with fail)
        have hs5' := b5.size
        have HO5 := Lib.hid (HO4.out.below b5)
        have HB5 := Lib.hid (HB4.out.trans (b5.mono (by omega)))
        have HX5 := Lib.hid ((b5.block _ (by omega)).trans HX4.out)
        have HOB := Lib.hid (fun i hi => (HO4.out.ownLt i hi))
        clear HO4 HB4 HX4
        refine hK.out _ _ (MS.out _ HB5.out HX5.out) (fun hHeld2 => ?_)
        clear hK K hHeld
        have hHeld := hHeld2
        clear hHeld2
        (try simp only [Act.put, List.setIfInBounds_toArray, List.set_cons_zero, List.set_cons_succ])
        refine gate_one (i := 11) rfl (by kernel_rfl) (fun K hK => ?_)
        go_simp
        obtain ⟨u6, hu6⟩ : ∃ u6, u5.alloc (.cells #[.int .i64 y1, .int .i64 y2, uy] 24) = u6 := ⟨_, rfl⟩
        have b6 : Below u5.heap.size u5 u6 := by rw [← hu6]; exact (Below.refl _ _).alloc (Nat.le_refl _) _
        have hn6 := heap_alloc_new u5 (.cells #[.int .i64 y1, .int .i64 y2, uy] 24)
        rw [hu6] at hn6 ⊢
        have HO6 := Lib.hid (HO5.out.below b6)
        have hs5 := (show W.heap.size + 4 ≤ u5.heap.size by have := HB5.out.size; omega)
        have hs6 := b6.size
        have HB6 := Lib.hid (HB5.out.trans (b6.mono (by omega)))
        have HX6 := Lib.hid ((b6.block _ (by omega)).trans HX5.out)
        have NK := Lib.hid (show KidsS u6 (offB u6 lim (W.heap.size + 4) (.slice vp vn vc)) uy Y from hKy.carry (fun b hb => ⟨⟨by omega, fun e => by have := HOB.out b e; have := HO6.out.ownLe b e; omega, by omega⟩, b6.block b (by omega)⟩))
        refine hK.out _ _ (MS.out _ HB6.out HX6.out) (fun hHeld2 => ?_)
        clear hK K hHeld
        have hHeld := hHeld2
        clear hHeld2
        (try simp only [Act.put, List.setIfInBounds_toArray, List.set_cons_zero, List.set_cons_succ])
        refine gate_one (i := 12) rfl (by kernel_rfl) (fun K hK => ?_)
        refine step_plain rfl (wp_append_t _ _ rfl rfl HO6.out rfl rfl (m := 1) (l2 := [⟨y1, y2, Y⟩]) (news := [.int .i64 y1, .int .i64 y2, uy]) ⟨_, [], rfl, NK.out, rfl⟩ (fun q z hq => ?_) (by omega) (by decide) (by have := TL.out; omega) ?_)
        · obtain ⟨z0, z1, z2, _, _, _⟩ := row_cells3 hn6
          rw [Addr.add_lit, Nat.zero_add]
          match q, hq with
          | 0, hq => simp at hq; subst hq; exact z0
          | 1, hq => simp at hq; subst hq; exact z1
          | 2, hq => simp at hq; subst hq; exact z2
        intro v7 u7 hO7 hg7
        obtain ⟨a7, n7, c7, rfl⟩ := hO7.form
        have own6 := HO6.out.ownLe
        have HB7 := Lib.hid (HB6.out.grown hg7 (by omega) (fun i hi => by have := own6 i hi; omega))
        have HX7 := Lib.hid ((hg7.block (W.heap.size + 1 + 1 + 1) (by omega) (fun e => by have := own6 _ e.symm; omega)).trans HX6.out)
        have HO7 := Lib.hid hO7
        clear hO7 hg7 own6 hn6 NK HO6 HB6 HX6 HO5 HB5 HX5
        refine hK.out _ _ (MS.out _ HB7.out HX7.out) (fun hHeld2 => ?_)
        clear hK K hHeld
        have hHeld := hHeld2
        clear hHeld2
        (try simp only [Act.put, List.setIfInBounds_toArray, List.set_cons_zero, List.set_cons_succ])
        refine gate_takeF (i := 13) (v := ?v11) rfl (by kernel_rfl) (by kernel_rfl) (by kernel_rfl) (by kernel_rfl) (fun _ _ _ h => h) (Or.inl ⟨by rfl, ?hy11⟩) (by assumption) ?rest11
        case hy11 => intro w hSw; clear hSw; go_simp; (first | done | with_reducible rfl)
        (try simp only [Act.put, List.setIfInBounds_toArray, List.set_cons_zero, List.set_cons_succ])
        obtain ⟨o0, o1, o2, f0, f1, f2⟩ := row_cells3 HX7.out
        refine gate_past (i := 14) rfl (by kernel_rfl) (by kernel_rfl) (fun K hK => ?_)
        go_simp
        refine hK.out _ _ ?_
        clear hK K hHeld
        (try simp only [Act.put, List.setIfInBounds_toArray, List.set_cons_zero, List.set_cons_succ])
        refine gate_done (by kernel_rfl) ?_ _
        have HX8 := Lib.hid (row_setCell3 HX7.out (.slice a7 n7 c7) (o := 2))
        have HB8 := Lib.hid (HB7.out.setCell (p := ⟨W.heap.size + 1 + 1 + 1, 2, none⟩) (Nat.le_refl _) (.slice a7 n7 c7))
        have HO8 := Lib.hid (HO7.out.keep (But.set u7 (W.heap.size + 1 + 1 + 1) 2 (.slice a7 n7 c7)) (show lim ≤ W.heap.size + 1 + 1 + 1 by omega) (by omega))
        clear o0 o1 o2 f0 f1 f2 HX7 HB7 HO7
        go_wp2_with fail
        go_roundw
        case rel => exact ⟨j + 1, by omega, by go_num, _, HX8, Lib.hid (by rw [TT.out]; exact HO8.out), HB8⟩
        case measure => (first | (simp [intOf]; done) | (simp [intOf]; omega) | (simp only [intOf]; omega))
      · have de : ((j : Int) == (i : Int)) = false := by simp; omega
        obtain ⟨t0, t1, t2⟩ := GO.out j hji
        rw [t0, t1, t2, HJ.out.1, HJ.out.2.1, HJ.out.2.2] at TT
        clear t0 t1 t2
        go_wp2_with fail
        have HO4 := Lib.hid (HO.out.below (Below.refl _ _).drew)
        have HB4 := Lib.hid (HB.out.drew)
        have HX4 := Lib.hid (show wr.drew.heap[W.heap.size + 1 + 1 + 1]? = _ from HX.out)
        refine region_gate (fun w' => w'.cell? ⟨W.heap.size + 1 + 1 + 1, 2, none⟩ = some (.slice vp vn vc) ∧ w'.cell? ⟨W.heap.size, 2, none⟩ = some (.slice (some ⟨g, h, none⟩) m c) ∧ w'.cell? ⟨g, h + j * 3, none⟩ = some (.int .i64 kj) ∧ w'.cell? ⟨g, h + j * 3 + 1, none⟩ = some (.int .i64 nj) ∧ w'.cell? ⟨g, h + j * 3 + 2, none⟩ = some (.slice pj mj cj) ∧ w'.cell? ⟨W.heap.size + 1, 0, none⟩ = some (.int .i64 k') ∧ w'.cell? ⟨W.heap.size + 1, 1, none⟩ = some (.int .i64 n') ∧ w'.cell? ⟨W.heap.size + 1, 2, none⟩ = some (.slice p' m' c')) 10 (by kernel_rfl) (MS.out _ HB4.out HX4.out) (fun hHeld => ?_)
        clear o0 o1 o2 f0 f1 f2 e0 e1 e2 g0 g1 g2 s0 s1 s2
        generalize wr.drew = u4 at *
        refine gate_takeF (i := 0) (v := ?v12) rfl (by kernel_rfl) (by kernel_rfl) (by kernel_rfl) (by kernel_rfl) (fun _ _ _ h => h) (Or.inl ⟨by rfl, ?hy12⟩) (by assumption) ?rest12
        case hy12 => intro w hSw; clear hSw; go_simp; (first | done | with_reducible rfl)
        (try simp only [Act.put, List.setIfInBounds_toArray, List.set_cons_zero, List.set_cons_succ])
        refine gate_take (i := 1) (v := ?v13) rfl (by kernel_rfl) (by kernel_rfl) (by kernel_rfl) (by kernel_rfl) (by kernel_rfl) (fun _ _ _ h => h) (Or.inl ⟨by rfl, ?hy13⟩) (by assumption) ?rest13
        case hy13 => intro w hSw; (try dsimp only at hSw); go_simp; (first | done | with_reducible rfl)
        (try simp only [Act.put, List.setIfInBounds_toArray, List.set_cons_zero, List.set_cons_succ])
        refine gate_takeF (i := 2) (v := ?v14) rfl (by kernel_rfl) (by kernel_rfl) (by kernel_rfl) (by kernel_rfl) (fun _ _ _ h => h) (Or.inl ⟨by rfl, ?hy14⟩) (by assumption) ?rest14
        case hy14 => intro w hSw; clear hSw; go_simp; (first | done | with_reducible rfl)
        (try simp only [Act.put, List.setIfInBounds_toArray, List.set_cons_zero, List.set_cons_succ])
        refine gate_take (i := 3) (v := ?v15) rfl (by kernel_rfl) (by kernel_rfl) (by kernel_rfl) (by kernel_rfl) (by kernel_rfl) (fun _ _ _ h => h) (Or.inl ⟨by rfl, ?hy15⟩) (by assumption) ?rest15
        case hy15 => intro w hSw; (try dsimp only at hSw); go_simp; (first | done | with_reducible rfl)
        (try simp only [Act.put, List.setIfInBounds_toArray, List.set_cons_zero, List.set_cons_succ])
        refine gate_takeF (i := 4) (v := ?v16) rfl (by kernel_rfl) (by kernel_rfl) (by kernel_rfl) (by kernel_rfl) (fun _ _ _ h => h) (Or.inl ⟨by rfl, ?hy16⟩) (by assumption) ?rest16
        case hy16 => intro w hSw; clear hSw; go_simp; (first | done | with_reducible rfl)
        (try simp only [Act.put, List.setIfInBounds_toArray, List.set_cons_zero, List.set_cons_succ])
        refine gate_takeF (i := 5) (v := ?v17) rfl (by kernel_rfl) (by kernel_rfl) (by kernel_rfl) (by kernel_rfl) (fun _ _ _ h => h) (Or.inl ⟨by rfl, ?hy17⟩) (by assumption) ?rest17
        case hy17 => intro w hSw; clear hSw; go_simp; (first | done | with_reducible rfl)
        (try simp only [Act.put, List.setIfInBounds_toArray, List.set_cons_zero, List.set_cons_succ])
        refine gate_take (i := 6) (v := ?v18) rfl (by kernel_rfl) (by kernel_rfl) (by kernel_rfl) (by kernel_rfl) (by kernel_rfl) (fun _ _ _ h => h) (Or.inl ⟨by rfl, ?hy18⟩) (by assumption) ?rest18
        case hy18 => intro w hSw; (try dsimp only at hSw); go_simp; (first | done | with_reducible rfl)
        (try simp only [Act.put, List.setIfInBounds_toArray, List.set_cons_zero, List.set_cons_succ])
        have HO5 := HO4
        have HB5 := HB4
        have HX5 := HX4
        clear HO4 HB4 HX4
        generalize u4 = u5 at *
        refine gate_one (i := 7) rfl (by kernel_rfl) (fun K hK => ?_)
        go_simp
        obtain ⟨u6, hu6⟩ : ∃ u6, u5.alloc (.cells #[.int .i64 kj, .int .i64 nj, (.slice pj mj cj)] 24) = u6 := ⟨_, rfl⟩
        have b6 : Below u5.heap.size u5 u6 := by rw [← hu6]; exact (Below.refl _ _).alloc (Nat.le_refl _) _
        have hn6 := heap_alloc_new u5 (.cells #[.int .i64 kj, .int .i64 nj, (.slice pj mj cj)] 24)
        rw [hu6] at hn6 ⊢
        have HO6 := Lib.hid (HO5.out.below b6)
        have hs5 := (show W.heap.size + 4 ≤ u5.heap.size by have := HB5.out.size; omega)
        have hs6 := b6.size
        have HB6 := Lib.hid (HB5.out.trans (b6.mono (by omega)))
        have HX6 := Lib.hid ((b6.block _ (by omega)).trans HX5.out)
        have NK := Lib.hid (show KidsS u6 (offB u6 lim (W.heap.size + 4) (.slice vp vn vc)) (.slice pj mj cj) Kj from (KidsS.of (HKj.out _ HB6.out)).carry (fun b hb => ⟨⟨by omega, fun e => by have := HO6.out.ownLe b e; omega, .inl hb⟩, rfl⟩))
        refine hK.out _ _ (MS.out _ HB6.out HX6.out) (fun hHeld2 => ?_)
        clear hK K hHeld
        have hHeld := hHeld2
        clear hHeld2
        (try simp only [Act.put, List.setIfInBounds_toArray, List.set_cons_zero, List.set_cons_succ])
        refine gate_one (i := 8) rfl (by kernel_rfl) (fun K hK => ?_)
        refine step_plain rfl (wp_append_t _ _ rfl rfl HO6.out rfl rfl (m := 1) (l2 := [⟨kj, nj, Kj⟩]) (news := [.int .i64 kj, .int .i64 nj, (.slice pj mj cj)]) ⟨_, [], rfl, NK.out, rfl⟩ (fun q z hq => ?_) (by omega) (by decide) (by have := TL.out; omega) ?_)
        · obtain ⟨z0, z1, z2, _, _, _⟩ := row_cells3 hn6
          rw [Addr.add_lit, Nat.zero_add]
          match q, hq with
          | 0, hq => simp at hq; subst hq; exact z0
          | 1, hq => simp at hq; subst hq; exact z1
          | 2, hq => simp at hq; subst hq; exact z2
        intro v7 u7 hO7 hg7
        obtain ⟨a7, n7, c7, rfl⟩ := hO7.form
        have own6 := HO6.out.ownLe
        have HB7 := Lib.hid (HB6.out.grown hg7 (by omega) (fun i hi => by have := own6 i hi; omega))
        have HX7 := Lib.hid ((hg7.block (W.heap.size + 1 + 1 + 1) (by omega) (fun e => by have := own6 _ e.symm; omega)).trans HX6.out)
        have HO7 := Lib.hid hO7
        clear hO7 hg7 own6 hn6 NK HO6 HB6 HX6 HO5 HB5 HX5
        refine hK.out _ _ (MS.out _ HB7.out HX7.out) (fun hHeld2 => ?_)
        clear hK K hHeld
        have hHeld := hHeld2
        clear hHeld2
        (try simp only [Act.put, List.setIfInBounds_toArray, List.set_cons_zero, List.set_cons_succ])
        refine gate_takeF (i := 9) (v := ?v19) rfl (by kernel_rfl) (by kernel_rfl) (by kernel_rfl) (by kernel_rfl) (fun _ _ _ h => h) (Or.inl ⟨by rfl, ?hy19⟩) (by assumption) ?rest19
        case hy19 => intro w hSw; clear hSw; go_simp; (first | done | with_reducible rfl)
        (try simp only [Act.put, List.setIfInBounds_toArray, List.set_cons_zero, List.set_cons_succ])
        obtain ⟨o0, o1, o2, f0, f1, f2⟩ := row_cells3 HX7.out
        refine gate_past (i := 10) rfl (by kernel_rfl) (by kernel_rfl) (fun K hK => ?_)
        go_simp
        refine hK.out _ _ ?_
        clear hK K hHeld
        (try simp only [Act.put, List.setIfInBounds_toArray, List.set_cons_zero, List.set_cons_succ])
        refine gate_done (by kernel_rfl) ?_ _
        have HX8 := Lib.hid (row_setCell3 HX7.out (.slice a7 n7 c7) (o := 2))
        have HB8 := Lib.hid (HB7.out.setCell (p := ⟨W.heap.size + 1 + 1 + 1, 2, none⟩) (Nat.le_refl _) (.slice a7 n7 c7))
        have HO8 := Lib.hid (HO7.out.keep (But.set u7 (W.heap.size + 1 + 1 + 1) 2 (.slice a7 n7 c7)) (show lim ≤ W.heap.size + 1 + 1 + 1 by omega) (by omega))
        clear o0 o1 o2 f0 f1 f2 HX7 HB7 HO7
        go_wp2_with fail
        go_roundw
        case rel => exact ⟨j + 1, by omega, by go_num, _, HX8, Lib.hid (by rw [TT.out]; exact HO8.out), HB8⟩
        case measure => (first | (simp [intOf]; done) | (simp [intOf]; omega) | (simp only [intOf]; omega))
    · obtain rfl : j = m := by omega
      have dd : decide ((j : Int) < (j : Int)) = false := decide_eq_false (by omega)
      obtain ⟨z0, z1, z2, h0, h1, h2⟩ := row_cells3 (R2.out _ HB.out)
      have HR := Lib.hid (row_put3 (a := .int .i64 k) (b := .int .i64 n) (c := .slice vp vn vc) (R2.out _ HB.out))
      have HB9 := Lib.hid (below_put3 (HBW.out.trans (HB.out.mono (show W.heap.size ≤ W.heap.size + 1 + 1 + 1 by omega))) (show W.heap.size ≤ W.heap.size + 1 + 1 by omega) (.int .i64 k) (.int .i64 n) (.slice vp vn vc))
      have HK9 := Lib.hid (show KidsS wr (fun b => b < wr.heap.size ∧ (b < lim ∨ W.heap.size + 4 ≤ b)) (.slice vp vn vc) G from OwnT.kidsS (by rw [← GA.out]; exact HO.out))
      go_wp2_with fail
      refine bodyPost_ret (results_cell_row (p := 6) (ty := 24) rfl _ _ _ 24 #[.int .i64 k, .int .i64 n, .slice vp vn vc] (0, 0) _ rfl HR.out Try.underlying24 rfl (by kernel_rfl)) rfl ?_
      exact ⟨_, rfl, HK9.out.carry (fun b hb => ⟨⟨by simpa using hb.1, by omega⟩, by rw [Below.heap_setCell _ _ _ _ (by show b ≠ W.heap.size + 1 + 1; omega), Below.heap_setCell _ _ _ _ (by show b ≠ W.heap.size + 1 + 1; omega), Below.heap_setCell _ _ _ _ (by show b ≠ W.heap.size + 1 + 1; omega)]⟩), HB9.out⟩
set_option maxRecDepth 100000 in
set_option maxHeartbeats 4000000 in
theorem r13_putlast (k n k' n' y1 y2 : Int) (ks Y : Fo) (g h m c m' c' i : Nat) (p' : Option Addr) (b o t d lim : Nat) (W : World) (hK : Kids W lim (.slice (some ⟨g, h, none⟩) m c) ks) (hm1 : m ≤ 1048576) (hi : i < m) (ht : t ≤ 17592186044415) (hd : t ≤ d + 1) (hd2 : d ≤ 9223372036854775807)
    (hP : W.cell? ⟨b, o, none⟩ = some (.int .i64 (i : Int))) (hl : lim ≤ W.heap.size)
    (CL : ∀ (kj nj : Int) (vj : Value) w', Below W.heap.size W w' → kj = ks.k i → nj = ks.n i → Kids w' lim vj (ks.kids i) → Calls Try.prog 28 #[.agg #[.int .i64 kj, .int .i64 nj, vj], (.slice (some ⟨b, o, none⟩) 0 0), .agg #[.int .i64 k', .int .i64 n', .slice p' m' c']] w' fun e w'' => ∃ u, e = .returned (.agg #[.int .i64 y1, .int .i64 y2, u]) ∧ KidsS w'' (fun b => b < w''.heap.size ∧ (b < lim ∨ w'.heap.size ≤ b)) u Y ∧ Below w'.heap.size w' w'') :
    Calls Try.prog 28 #[.agg #[.int .i64 k, .int .i64 n, .slice (some ⟨g, h, none⟩) m c], (.slice (some ⟨b, o, none⟩) 1 1), .agg #[.int .i64 k', .int .i64 n', .slice p' m' c']] W fun e w' => ∃ u, e = .returned (.agg #[.int .i64 k, .int .i64 n, u]) ∧ KidsS w' (fun b => b < w'.heap.size ∧ (b < lim ∨ W.heap.size ≤ b)) u (ks.setk i y1 y2 Y) ∧ Below W.heap.size W w' := by
  obtain ⟨w0, hw0, r0, r1, r2, hB0, hs0⟩ := put_start W k n k' n' (.slice (some ⟨g, h, none⟩) m c) (.slice p' m' c')
  obtain ⟨w1, hw1⟩ : ∃ w1, w0.alloc (.cells #[.int .i64 k, .int .i64 n, .slice none 0 0] 24) = w1 := ⟨_, rfl⟩
  have hn1 := heap_alloc_new w0 (.cells #[.int .i64 k, .int .i64 n, .slice none 0 0] 24)
  rw [hw1, hs0] at hn1
  have hB1 : Below w0.heap.size w0 w1 := by rw [← hw1]; exact (Below.refl _ _).alloc (Nat.le_refl _) _
  have hs1 : w1.heap.size = W.heap.size + 4 := by rw [← hw1]; simp; omega
  have hB := hB0.trans (hB1.mono (by omega))
  obtain ⟨x0, x1, x2, _, _, _⟩ := row_cells3 r0
  have lP := block_lt_of_cell hP
  have hml : m = ks.len := by obtain ⟨_, _, e, _⟩ := hK; cases e; rfl
  have R0 := Lib.hid (fun w (hb : Below (W.heap.size + 1 + 1 + 1) w1 w) => row_cells3 ((hb.block W.heap.size (by omega)).trans ((hB1.block _ (by omega)).trans r0)))
  have R1 := Lib.hid (fun w (hb : Below (W.heap.size + 1 + 1 + 1) w1 w) => row_cells3 ((hb.block (W.heap.size + 1) (by omega)).trans ((hB1.block _ (by omega)).trans r1)))
  have R2 := Lib.hid (fun w (hb : Below (W.heap.size + 1 + 1 + 1) w1 w) => (hb.block (W.heap.size + 1 + 1) (by omega)).trans ((hB1.block _ (by omega)).trans r2))
  have RP := Lib.hid (fun w (hb : Below (W.heap.size + 1 + 1 + 1) w1 w) => ((hb.cell (p := ⟨b, o, none⟩) (show b < W.heap.size + 1 + 1 + 1 by have : b < W.heap.size := lP; omega)).trans ((hB.cell (p := ⟨b, o, none⟩) lP).trans hP)))
  have RK := Lib.hid (fun w (hb : Below (W.heap.size + 1 + 1 + 1) w1 w) => (hK.carry (hB.mono hl)).carry (hb.mono (show lim ≤ W.heap.size + 1 + 1 + 1 by omega)))
  have CL := Lib.hid CL
  have HO1 := Lib.hid (OwnT.nil w1 lim (W.heap.size + 4))
  have HN1 := Lib.hid hn1
  obtain ⟨G, hG⟩ : ∃ G, ks.setk i y1 y2 Y = G := ⟨_, rfl⟩
  have hGl : G.len = m := by rw [← hG, setk_len]; exact hml.symm
  have GS := Lib.hid (show G.k i = y1 ∧ G.n i = y2 ∧ G.kids i = Y by rw [← hG]; exact setk_same ks i y1 y2 Y (by omega))
  have GO := Lib.hid (fun t (ht : t ≠ i) => (show G.k t = ks.k t ∧ G.n t = ks.n t ∧ G.kids t = ks.kids t by rw [← hG]; exact setk_other ks i t y1 y2 Y ht))
  have GT := Lib.hid (fun j (hj : j < m) => top_take G j (by omega))
  have GA := Lib.hid (show G.top.take m = G.top by rw [← hGl]; exact top_take_all G)
  have TLL := Lib.hid (fun j => (List.length_take_le j G.top))
  have HBW := Lib.hid hB
  rw [hG]
  clear hG r0 r1 r2 hn1 hP hK hB1 hml
  go_enter Try.func28, Try.ntmps28
  go_wp2_with fail
  rw [← hw0]
  clear hw0
  go_wp2_with fail
  rw [hw1]
  clear hw1 hB0 hs0 x0 x1 x2
  go_loopw [8] (fun x wr => ∃ j : Nat, j ≤ m ∧ x = .int .i64 j ∧ ∃ v, Hid (wr.heap[W.heap.size + 1 + 1 + 1]? = some (.cells #[.int .i64 k, .int .i64 n, v] 24 (0, 0))) ∧ Hid (OwnT wr lim (W.heap.size + 4) v (G.top.take j)) ∧ Hid (Below (W.heap.size + 1 + 1 + 1) w1 wr)) (fun x _ => m - (intOf x).toNat)
  case atStart => exact ⟨0, Nat.zero_le _, rfl, _, HN1, Lib.hid (by rw [List.take_zero]; exact HO1.out), Lib.hid (Below.refl _ _)⟩
  case round =>
    clear HO1 HN1
    obtain ⟨j, hj, rfl, v, HX, HO, HB⟩ := hrel
    obtain ⟨vp, vn, vc, rfl⟩ := HO.out.form
    obtain ⟨e0, e1, e2, _, _, _⟩ := R0.out _ HB.out
    obtain ⟨s0, s1, s2, _, _, _⟩ := R1.out _ HB.out
    obtain ⟨o0, o1, o2, f0, f1, f2⟩ := row_cells3 HX.out
    have pc := RP.out _ HB.out
    by_cases hlt : j < m
    · have dd : decide ((j : Int) < (m : Int)) = true := decide_eq_true (by omega)
      obtain ⟨b', o', vj, ee, hb', g0, g1, g2, hKj⟩ := (RK.out _ HB.out).get hlt
      cases ee
      obtain ⟨kj, hkj⟩ : ∃ z, ks.k j = z := ⟨_, rfl⟩
      obtain ⟨nj, hnj⟩ : ∃ z, ks.n j = z := ⟨_, rfl⟩
      obtain ⟨Kj, hKj2⟩ : ∃ z, ks.kids j = z := ⟨_, rfl⟩
      rw [hkj] at g0
      rw [hnj] at g1
      rw [hKj2] at hKj
      obtain ⟨pj, cj, rfl, _, _⟩ := hKj.form
      obtain ⟨mj, hmj⟩ : ∃ z, Kj.len = z := ⟨_, rfl⟩
      rw [hmj] at g2 hKj
      have HJ := Lib.hid (And.intro hkj (And.intro hnj hKj2))
      have HKj := Lib.hid (fun w' (hb : Below (W.heap.size + 1 + 1 + 1) w1 w') => ((KidsS.of hKj).carry (w' := w') (fun x hx => ⟨hx, (hb.block x (by omega)).trans (HB.out.block x (by omega)).symm⟩)).to (fun _ h => h))
      clear hkj hnj hKj2 hmj hKj
      have TT := Lib.hid (GT.out j hlt)
      have TL := Lib.hid (show (G.top.take j).length ≤ 1048576 by have := TLL.out j; omega)
      have MS := Lib.hid (fun w' (hb : Below (W.heap.size + 1 + 1 + 1) w1 w') (hx : w'.heap[W.heap.size + 1 + 1 + 1]? = some (.cells #[.int .i64 k, .int .i64 n, .slice vp vn vc] 24 (0, 0))) => (show w'.cell? ⟨W.heap.size + 1 + 1 + 1, 2, none⟩ = some (.slice vp vn vc) ∧ w'.cell? ⟨W.heap.size, 2, none⟩ = some (.slice (some ⟨g, h, none⟩) m c) ∧ w'.cell? ⟨g, h + j * 3, none⟩ = some (.int .i64 kj) ∧ w'.cell? ⟨g, h + j * 3 + 1, none⟩ = some (.int .i64 nj) ∧ w'.cell? ⟨g, h + j * 3 + 2, none⟩ = some (.slice pj mj cj) ∧ w'.cell? ⟨W.heap.size + 1, 0, none⟩ = some (.int .i64 k') ∧ w'.cell? ⟨W.heap.size + 1, 1, none⟩ = some (.int .i64 n') ∧ w'.cell? ⟨W.heap.size + 1, 2, none⟩ = some (.slice p' m' c') from ⟨(row_cells3 hx).2.2.1, (R0.out w' hb).2.2.1, (hb.cell (p := ⟨g, _, none⟩) (show g < W.heap.size + 1 + 1 + 1 by omega)).trans ((HB.out.cell (p := ⟨g, _, none⟩) (show g < W.heap.size + 1 + 1 + 1 by omega)).symm.trans g0), (hb.cell (p := ⟨g, _, none⟩) (show g < W.heap.size + 1 + 1 + 1 by omega)).trans ((HB.out.cell (p := ⟨g, _, none⟩) (show g < W.heap.size + 1 + 1 + 1 by omega)).symm.trans g1), (hb.cell (p := ⟨g, _, none⟩) (show g < W.heap.size + 1 + 1 + 1 by omega)).trans ((HB.out.cell (p := ⟨g, _, none⟩) (show g < W.heap.size + 1 + 1 + 1 by omega)).symm.trans g2), (R1.out w' hb).1, (R1.out w' hb).2.1, (R1.out w' hb).2.2.1⟩))
      generalize G.top.take j = L at *
      by_cases hji : j = i
      · subst hji
        have de : ((j : Int) == (j : Int)) = true := by simp
        obtain ⟨t0, t1, t2⟩ := GS.out
        rw [t0, t1, t2] at TT
        go_wp2_with fail
        have HO4 := Lib.hid (HO.out.below (Below.refl _ _).drew)
        have HB4 := Lib.hid (HB.out.drew)
        have HX4 := Lib.hid (show wr.drew.heap[W.heap.size + 1 + 1 + 1]? = _ from HX.out)
        refine region_gate (fun w' => w'.cell? ⟨W.heap.size + 1 + 1 + 1, 2, none⟩ = some (.slice vp vn vc) ∧ w'.cell? ⟨W.heap.size, 2, none⟩ = some (.slice (some ⟨g, h, none⟩) m c) ∧ w'.cell? ⟨g, h + j * 3, none⟩ = some (.int .i64 kj) ∧ w'.cell? ⟨g, h + j * 3 + 1, none⟩ = some (.int .i64 nj) ∧ w'.cell? ⟨g, h + j * 3 + 2, none⟩ = some (.slice pj mj cj) ∧ w'.cell? ⟨W.heap.size + 1, 0, none⟩ = some (.int .i64 k') ∧ w'.cell? ⟨W.heap.size + 1, 1, none⟩ = some (.int .i64 n') ∧ w'.cell? ⟨W.heap.size + 1, 2, none⟩ = some (.slice p' m' c')) 14 (by kernel_rfl) (MS.out _ HB4.out HX4.out) (fun hHeld => ?_)
        clear o0 o1 o2 f0 f1 f2 e0 e1 e2 g0 g1 g2 s0 s1 s2
        generalize wr.drew = u4 at *
        refine gate_takeF (i := 0) (v := ?v20) rfl (by kernel_rfl) (by kernel_rfl) (by kernel_rfl) (by kernel_rfl) (fun _ _ _ h => h) (Or.inl ⟨by rfl, ?hy20⟩) (by assumption) ?rest20
        case hy20 => intro w hSw; clear hSw; go_simp; (first | done | with_reducible rfl)
        (try simp only [Act.put, List.setIfInBounds_toArray, List.set_cons_zero, List.set_cons_succ])
        refine gate_take (i := 1) (v := ?v21) rfl (by kernel_rfl) (by kernel_rfl) (by kernel_rfl) (by kernel_rfl) (by kernel_rfl) (fun _ _ _ h => h) (Or.inl ⟨by rfl, ?hy21⟩) (by assumption) ?rest21
        case hy21 => intro w hSw; (try dsimp only at hSw); go_simp; (first | done | with_reducible rfl)
        (try simp only [Act.put, List.setIfInBounds_toArray, List.set_cons_zero, List.set_cons_succ])
        refine gate_takeF (i := 2) (v := ?v22) rfl (by kernel_rfl) (by kernel_rfl) (by kernel_rfl) (by kernel_rfl) (fun _ _ _ h => h) (Or.inl ⟨by rfl, ?hy22⟩) (by assumption) ?rest22
        case hy22 => intro w hSw; clear hSw; go_simp; (first | done | with_reducible rfl)
        (try simp only [Act.put, List.setIfInBounds_toArray, List.set_cons_zero, List.set_cons_succ])
        refine gate_take (i := 3) (v := ?v23) rfl (by kernel_rfl) (by kernel_rfl) (by kernel_rfl) (by kernel_rfl) (by kernel_rfl) (fun _ _ _ h => h) (Or.inl ⟨by rfl, ?hy23⟩) (by assumption) ?rest23
        case hy23 => intro w hSw; (try dsimp only at hSw); go_simp; (first | done | with_reducible rfl)
        (try simp only [Act.put, List.setIfInBounds_toArray, List.set_cons_zero, List.set_cons_succ])
        refine gate_takeF (i := 4) (v := ?v24) rfl (by kernel_rfl) (by kernel_rfl) (by kernel_rfl) (by kernel_rfl) (fun _ _ _ h => h) (Or.inl ⟨by rfl, ?hy24⟩) (by assumption) ?rest24
        case hy24 => intro w hSw; clear hSw; go_simp; (first | done | with_reducible rfl)
        (try simp only [Act.put, List.setIfInBounds_toArray, List.set_cons_zero, List.set_cons_succ])
        refine gate_takeF (i := 5) (v := ?v25) rfl (by kernel_rfl) (by kernel_rfl) (by kernel_rfl) (by kernel_rfl) (fun _ _ _ h => h) (Or.inl ⟨by rfl, ?hy25⟩) (by assumption) ?rest25
        case hy25 => intro w hSw; clear hSw; go_simp; (first | done | with_reducible rfl)
        (try simp only [Act.put, List.setIfInBounds_toArray, List.set_cons_zero, List.set_cons_succ])
        refine gate_take (i := 6) (v := ?v26) rfl (by kernel_rfl) (by kernel_rfl) (by kernel_rfl) (by kernel_rfl) (by kernel_rfl) (fun _ _ _ h => h) (Or.inl ⟨by rfl, ?hy26⟩) (by assumption) ?rest26
        case hy26 => intro w hSw; (try dsimp only at hSw); go_simp; (first | done | with_reducible rfl)
        (try simp only [Act.put, List.setIfInBounds_toArray, List.set_cons_zero, List.set_cons_succ])
        refine gate_takeF (i := 7) (v := ?v27) rfl (by kernel_rfl) (by kernel_rfl) (by kernel_rfl) (by kernel_rfl) (fun _ _ _ h => h) (Or.inl ⟨by rfl, ?hy27⟩) (by assumption) ?rest27
        case hy27 => intro w hSw; clear hSw; go_simp; (first | done | with_reducible rfl)
        (try simp only [Act.put, List.setIfInBounds_toArray, List.set_cons_zero, List.set_cons_succ])
        refine gate_takeF (i := 8) (v := ?v28) rfl (by kernel_rfl) (by kernel_rfl) (by kernel_rfl) (by kernel_rfl) (fun _ _ _ h => h) (Or.inl ⟨by rfl, ?hy28⟩) (by assumption) ?rest28
        case hy28 => intro w hSw; clear hSw; go_simp; (first | done | with_reducible rfl)
        (try simp only [Act.put, List.setIfInBounds_toArray, List.set_cons_zero, List.set_cons_succ])
        refine gate_take (i := 9) (v := ?v29) rfl (by kernel_rfl) (by kernel_rfl) (by kernel_rfl) (by kernel_rfl) (by kernel_rfl) (fun _ _ _ h => h) (Or.inl ⟨by rfl, ?hy29⟩) (by assumption) ?rest29
        case hy29 => intro w hSw; (try dsimp only at hSw); go_simp; (first | done | with_reducible rfl)
        (try simp only [Act.put, List.setIfInBounds_toArray, List.set_cons_zero, List.set_cons_succ])
        have hs4 := HB4.out.size
        have HBW2 := Lib.hid (hB.trans ((HB4.out.mono (show W.heap.size ≤ W.heap.size + 1 + 1 + 1 by omega))))
        refine gate_one (i := 10) rfl (by kernel_rfl) (fun K hK => ?_)
        go_simp
        refine (CL.out kj nj _ _ HBW2.out HJ.out.1.symm HJ.out.2.1.symm (by rw [HJ.out.2.2]; exact HKj.out _ HB4.out) ).mono ?_
        rintro e u5 ⟨uy, rfl, hKy, b5⟩
        (try go_wp2_with fail)
        have hs5' := b5.size
        have HO5 := Lib.hid (HO4.out.below b5)
        have HB5 := Lib.hid (HB4.out.trans (b5.mono (by omega)))
        have HX5 := Lib.hid ((b5.block _ (by omega)).trans HX4.out)
        have HOB := Lib.hid (fun i hi => (HO4.out.ownLt i hi))
        clear HO4 HB4 HX4
        refine hK.out _ _ (MS.out _ HB5.out HX5.out) (fun hHeld2 => ?_)
        clear hK K hHeld
        have hHeld := hHeld2
        clear hHeld2
        (try simp only [Act.put, List.setIfInBounds_toArray, List.set_cons_zero, List.set_cons_succ])
        refine gate_one (i := 11) rfl (by kernel_rfl) (fun K hK => ?_)
        go_simp
        obtain ⟨u6, hu6⟩ : ∃ u6, u5.alloc (.cells #[.int .i64 y1, .int .i64 y2, uy] 24) = u6 := ⟨_, rfl⟩
        have b6 : Below u5.heap.size u5 u6 := by rw [← hu6]; exact (Below.refl _ _).alloc (Nat.le_refl _) _
        have hn6 := heap_alloc_new u5 (.cells #[.int .i64 y1, .int .i64 y2, uy] 24)
        rw [hu6] at hn6 ⊢
        have HO6 := Lib.hid (HO5.out.below b6)
        have hs5 := (show W.heap.size + 4 ≤ u5.heap.size by have := HB5.out.size; omega)
        have hs6 := b6.size
        have HB6 := Lib.hid (HB5.out.trans (b6.mono (by omega)))
        have HX6 := Lib.hid ((b6.block _ (by omega)).trans HX5.out)
        have NK := Lib.hid (show KidsS u6 (offB u6 lim (W.heap.size + 4) (.slice vp vn vc)) uy Y from hKy.carry (fun b hb => ⟨⟨by omega, fun e => by have := HOB.out b e; have := HO6.out.ownLe b e; omega, by omega⟩, b6.block b (by omega)⟩))
        refine hK.out _ _ (MS.out _ HB6.out HX6.out) (fun hHeld2 => ?_)
        clear hK K hHeld
        have hHeld := hHeld2
        clear hHeld2
        (try simp only [Act.put, List.setIfInBounds_toArray, List.set_cons_zero, List.set_cons_succ])
        refine gate_one (i := 12) rfl (by kernel_rfl) (fun K hK => ?_)
        refine step_plain rfl (wp_append_t _ _ rfl rfl HO6.out rfl rfl (m := 1) (l2 := [⟨y1, y2, Y⟩]) (news := [.int .i64 y1, .int .i64 y2, uy]) ⟨_, [], rfl, NK.out, rfl⟩ (fun q z hq => ?_) (by omega) (by decide) (by have := TL.out; omega) ?_)
        · obtain ⟨z0, z1, z2, _, _, _⟩ := row_cells3 hn6
          rw [Addr.add_lit, Nat.zero_add]
          match q, hq with
          | 0, hq => simp at hq; subst hq; exact z0
          | 1, hq => simp at hq; subst hq; exact z1
          | 2, hq => simp at hq; subst hq; exact z2
        intro v7 u7 hO7 hg7
        obtain ⟨a7, n7, c7, rfl⟩ := hO7.form
        have own6 := HO6.out.ownLe
        have HB7 := Lib.hid (HB6.out.grown hg7 (by omega) (fun i hi => by have := own6 i hi; omega))
        have HX7 := Lib.hid ((hg7.block (W.heap.size + 1 + 1 + 1) (by omega) (fun e => by have := own6 _ e.symm; omega)).trans HX6.out)
        have HO7 := Lib.hid hO7
        clear hO7 hg7 own6 hn6 NK HO6 HB6 HX6 HO5 HB5 HX5
        refine hK.out _ _ (MS.out _ HB7.out HX7.out) (fun hHeld2 => ?_)
        clear hK K hHeld
        have hHeld := hHeld2
        clear hHeld2
        (try simp only [Act.put, List.setIfInBounds_toArray, List.set_cons_zero, List.set_cons_succ])
        refine gate_takeF (i := 13) (v := ?v30) rfl (by kernel_rfl) (by kernel_rfl) (by kernel_rfl) (by kernel_rfl) (fun _ _ _ h => h) (Or.inl ⟨by rfl, ?hy30⟩) (by assumption) ?rest30
        case hy30 => intro w hSw; clear hSw; go_simp; (first | done | with_reducible rfl)
        (try simp only [Act.put, List.setIfInBounds_toArray, List.set_cons_zero, List.set_cons_succ])
        obtain ⟨o0, o1, o2, f0, f1, f2⟩ := row_cells3 HX7.out
        refine gate_past (i := 14) rfl (by kernel_rfl) (by kernel_rfl) (fun K hK => ?_)
        go_simp
        refine hK.out _ _ ?_
        clear hK K hHeld
        (try simp only [Act.put, List.setIfInBounds_toArray, List.set_cons_zero, List.set_cons_succ])
        refine gate_done (by kernel_rfl) ?_ _
        have HX8 := Lib.hid (row_setCell3 HX7.out (.slice a7 n7 c7) (o := 2))
        have HB8 := Lib.hid (HB7.out.setCell (p := ⟨W.heap.size + 1 + 1 + 1, 2, none⟩) (Nat.le_refl _) (.slice a7 n7 c7))
        have HO8 := Lib.hid (HO7.out.keep (But.set u7 (W.heap.size + 1 + 1 + 1) 2 (.slice a7 n7 c7)) (show lim ≤ W.heap.size + 1 + 1 + 1 by omega) (by omega))
        clear o0 o1 o2 f0 f1 f2 HX7 HB7 HO7
        go_wp2_with fail
        go_roundw
        case rel => exact ⟨j + 1, by omega, by go_num, _, HX8, Lib.hid (by rw [TT.out]; exact HO8.out), HB8⟩
        case measure => (first | (simp [intOf]; done) | (simp [intOf]; omega) | (simp only [intOf]; omega))
      · have de : ((j : Int) == (i : Int)) = false := by simp; omega
        obtain ⟨t0, t1, t2⟩ := GO.out j hji
        rw [t0, t1, t2, HJ.out.1, HJ.out.2.1, HJ.out.2.2] at TT
        clear t0 t1 t2
        go_wp2_with fail
        have HO4 := Lib.hid (HO.out.below (Below.refl _ _).drew)
        have HB4 := Lib.hid (HB.out.drew)
        have HX4 := Lib.hid (show wr.drew.heap[W.heap.size + 1 + 1 + 1]? = _ from HX.out)
        refine region_gate (fun w' => w'.cell? ⟨W.heap.size + 1 + 1 + 1, 2, none⟩ = some (.slice vp vn vc) ∧ w'.cell? ⟨W.heap.size, 2, none⟩ = some (.slice (some ⟨g, h, none⟩) m c) ∧ w'.cell? ⟨g, h + j * 3, none⟩ = some (.int .i64 kj) ∧ w'.cell? ⟨g, h + j * 3 + 1, none⟩ = some (.int .i64 nj) ∧ w'.cell? ⟨g, h + j * 3 + 2, none⟩ = some (.slice pj mj cj) ∧ w'.cell? ⟨W.heap.size + 1, 0, none⟩ = some (.int .i64 k') ∧ w'.cell? ⟨W.heap.size + 1, 1, none⟩ = some (.int .i64 n') ∧ w'.cell? ⟨W.heap.size + 1, 2, none⟩ = some (.slice p' m' c')) 10 (by kernel_rfl) (MS.out _ HB4.out HX4.out) (fun hHeld => ?_)
        clear o0 o1 o2 f0 f1 f2 e0 e1 e2 g0 g1 g2 s0 s1 s2
        generalize wr.drew = u4 at *
        refine gate_takeF (i := 0) (v := ?v31) rfl (by kernel_rfl) (by kernel_rfl) (by kernel_rfl) (by kernel_rfl) (fun _ _ _ h => h) (Or.inl ⟨by rfl, ?hy31⟩) (by assumption) ?rest31
        case hy31 => intro w hSw; clear hSw; go_simp; (first | done | with_reducible rfl)
        (try simp only [Act.put, List.setIfInBounds_toArray, List.set_cons_zero, List.set_cons_succ])
        refine gate_take (i := 1) (v := ?v32) rfl (by kernel_rfl) (by kernel_rfl) (by kernel_rfl) (by kernel_rfl) (by kernel_rfl) (fun _ _ _ h => h) (Or.inl ⟨by rfl, ?hy32⟩) (by assumption) ?rest32
        case hy32 => intro w hSw; (try dsimp only at hSw); go_simp; (first | done | with_reducible rfl)
        (try simp only [Act.put, List.setIfInBounds_toArray, List.set_cons_zero, List.set_cons_succ])
        refine gate_takeF (i := 2) (v := ?v33) rfl (by kernel_rfl) (by kernel_rfl) (by kernel_rfl) (by kernel_rfl) (fun _ _ _ h => h) (Or.inl ⟨by rfl, ?hy33⟩) (by assumption) ?rest33
        case hy33 => intro w hSw; clear hSw; go_simp; (first | done | with_reducible rfl)
        (try simp only [Act.put, List.setIfInBounds_toArray, List.set_cons_zero, List.set_cons_succ])
        refine gate_take (i := 3) (v := ?v34) rfl (by kernel_rfl) (by kernel_rfl) (by kernel_rfl) (by kernel_rfl) (by kernel_rfl) (fun _ _ _ h => h) (Or.inl ⟨by rfl, ?hy34⟩) (by assumption) ?rest34
        case hy34 => intro w hSw; (try dsimp only at hSw); go_simp; (first | done | with_reducible rfl)
        (try simp only [Act.put, List.setIfInBounds_toArray, List.set_cons_zero, List.set_cons_succ])
        refine gate_takeF (i := 4) (v := ?v35) rfl (by kernel_rfl) (by kernel_rfl) (by kernel_rfl) (by kernel_rfl) (fun _ _ _ h => h) (Or.inl ⟨by rfl, ?hy35⟩) (by assumption) ?rest35
        case hy35 => intro w hSw; clear hSw; go_simp; (first | done | with_reducible rfl)
        (try simp only [Act.put, List.setIfInBounds_toArray, List.set_cons_zero, List.set_cons_succ])
        refine gate_takeF (i := 5) (v := ?v36) rfl (by kernel_rfl) (by kernel_rfl) (by kernel_rfl) (by kernel_rfl) (fun _ _ _ h => h) (Or.inl ⟨by rfl, ?hy36⟩) (by assumption) ?rest36
        case hy36 => intro w hSw; clear hSw; go_simp; (first | done | with_reducible rfl)
        (try simp only [Act.put, List.setIfInBounds_toArray, List.set_cons_zero, List.set_cons_succ])
        refine gate_take (i := 6) (v := ?v37) rfl (by kernel_rfl) (by kernel_rfl) (by kernel_rfl) (by kernel_rfl) (by kernel_rfl) (fun _ _ _ h => h) (Or.inl ⟨by rfl, ?hy37⟩) (by assumption) ?rest37
        case hy37 => intro w hSw; (try dsimp only at hSw); go_simp; (first | done | with_reducible rfl)
        (try simp only [Act.put, List.setIfInBounds_toArray, List.set_cons_zero, List.set_cons_succ])
        have HO5 := HO4
        have HB5 := HB4
        have HX5 := HX4
        clear HO4 HB4 HX4
        generalize u4 = u5 at *
        refine gate_one (i := 7) rfl (by kernel_rfl) (fun K hK => ?_)
        go_simp
        obtain ⟨u6, hu6⟩ : ∃ u6, u5.alloc (.cells #[.int .i64 kj, .int .i64 nj, (.slice pj mj cj)] 24) = u6 := ⟨_, rfl⟩
        have b6 : Below u5.heap.size u5 u6 := by rw [← hu6]; exact (Below.refl _ _).alloc (Nat.le_refl _) _
        have hn6 := heap_alloc_new u5 (.cells #[.int .i64 kj, .int .i64 nj, (.slice pj mj cj)] 24)
        rw [hu6] at hn6 ⊢
        have HO6 := Lib.hid (HO5.out.below b6)
        have hs5 := (show W.heap.size + 4 ≤ u5.heap.size by have := HB5.out.size; omega)
        have hs6 := b6.size
        have HB6 := Lib.hid (HB5.out.trans (b6.mono (by omega)))
        have HX6 := Lib.hid ((b6.block _ (by omega)).trans HX5.out)
        have NK := Lib.hid (show KidsS u6 (offB u6 lim (W.heap.size + 4) (.slice vp vn vc)) (.slice pj mj cj) Kj from (KidsS.of (HKj.out _ HB6.out)).carry (fun b hb => ⟨⟨by omega, fun e => by have := HO6.out.ownLe b e; omega, .inl hb⟩, rfl⟩))
        refine hK.out _ _ (MS.out _ HB6.out HX6.out) (fun hHeld2 => ?_)
        clear hK K hHeld
        have hHeld := hHeld2
        clear hHeld2
        (try simp only [Act.put, List.setIfInBounds_toArray, List.set_cons_zero, List.set_cons_succ])
        refine gate_one (i := 8) rfl (by kernel_rfl) (fun K hK => ?_)
        refine step_plain rfl (wp_append_t _ _ rfl rfl HO6.out rfl rfl (m := 1) (l2 := [⟨kj, nj, Kj⟩]) (news := [.int .i64 kj, .int .i64 nj, (.slice pj mj cj)]) ⟨_, [], rfl, NK.out, rfl⟩ (fun q z hq => ?_) (by omega) (by decide) (by have := TL.out; omega) ?_)
        · obtain ⟨z0, z1, z2, _, _, _⟩ := row_cells3 hn6
          rw [Addr.add_lit, Nat.zero_add]
          match q, hq with
          | 0, hq => simp at hq; subst hq; exact z0
          | 1, hq => simp at hq; subst hq; exact z1
          | 2, hq => simp at hq; subst hq; exact z2
        intro v7 u7 hO7 hg7
        obtain ⟨a7, n7, c7, rfl⟩ := hO7.form
        have own6 := HO6.out.ownLe
        have HB7 := Lib.hid (HB6.out.grown hg7 (by omega) (fun i hi => by have := own6 i hi; omega))
        have HX7 := Lib.hid ((hg7.block (W.heap.size + 1 + 1 + 1) (by omega) (fun e => by have := own6 _ e.symm; omega)).trans HX6.out)
        have HO7 := Lib.hid hO7
        clear hO7 hg7 own6 hn6 NK HO6 HB6 HX6 HO5 HB5 HX5
        refine hK.out _ _ (MS.out _ HB7.out HX7.out) (fun hHeld2 => ?_)
        clear hK K hHeld
        have hHeld := hHeld2
        clear hHeld2
        (try simp only [Act.put, List.setIfInBounds_toArray, List.set_cons_zero, List.set_cons_succ])
        refine gate_takeF (i := 9) (v := ?v38) rfl (by kernel_rfl) (by kernel_rfl) (by kernel_rfl) (by kernel_rfl) (fun _ _ _ h => h) (Or.inl ⟨by rfl, ?hy38⟩) (by assumption) ?rest38
        case hy38 => intro w hSw; clear hSw; go_simp; (first | done | with_reducible rfl)
        (try simp only [Act.put, List.setIfInBounds_toArray, List.set_cons_zero, List.set_cons_succ])
        obtain ⟨o0, o1, o2, f0, f1, f2⟩ := row_cells3 HX7.out
        refine gate_past (i := 10) rfl (by kernel_rfl) (by kernel_rfl) (fun K hK => ?_)
        go_simp
        refine hK.out _ _ ?_
        clear hK K hHeld
        (try simp only [Act.put, List.setIfInBounds_toArray, List.set_cons_zero, List.set_cons_succ])
        refine gate_done (by kernel_rfl) ?_ _
        have HX8 := Lib.hid (row_setCell3 HX7.out (.slice a7 n7 c7) (o := 2))
        have HB8 := Lib.hid (HB7.out.setCell (p := ⟨W.heap.size + 1 + 1 + 1, 2, none⟩) (Nat.le_refl _) (.slice a7 n7 c7))
        have HO8 := Lib.hid (HO7.out.keep (But.set u7 (W.heap.size + 1 + 1 + 1) 2 (.slice a7 n7 c7)) (show lim ≤ W.heap.size + 1 + 1 + 1 by omega) (by omega))
        clear o0 o1 o2 f0 f1 f2 HX7 HB7 HO7
        go_wp2_with fail
        go_roundw
        case rel => exact ⟨j + 1, by omega, by go_num, _, HX8, Lib.hid (by rw [TT.out]; exact HO8.out), HB8⟩
        case measure => (first | (simp [intOf]; done) | (simp [intOf]; omega) | (simp only [intOf]; omega))
    · obtain rfl : j = m := by omega
      have dd : decide ((j : Int) < (j : Int)) = false := decide_eq_false (by omega)
      obtain ⟨z0, z1, z2, h0, h1, h2⟩ := row_cells3 (R2.out _ HB.out)
      have HR := Lib.hid (row_put3 (a := .int .i64 k) (b := .int .i64 n) (c := .slice vp vn vc) (R2.out _ HB.out))
      have HB9 := Lib.hid (below_put3 (HBW.out.trans (HB.out.mono (show W.heap.size ≤ W.heap.size + 1 + 1 + 1 by omega))) (show W.heap.size ≤ W.heap.size + 1 + 1 by omega) (.int .i64 k) (.int .i64 n) (.slice vp vn vc))
      have HK9 := Lib.hid (show KidsS wr (fun b => b < wr.heap.size ∧ (b < lim ∨ W.heap.size + 4 ≤ b)) (.slice vp vn vc) G from OwnT.kidsS (by rw [← GA.out]; exact HO.out))
      go_wp2_with fail
      refine bodyPost_ret (results_cell_row (p := 6) (ty := 24) rfl _ _ _ 24 #[.int .i64 k, .int .i64 n, .slice vp vn vc] (0, 0) _ rfl HR.out Try.underlying24 rfl (by kernel_rfl)) rfl ?_
      exact ⟨_, rfl, HK9.out.carry (fun b hb => ⟨⟨by simpa using hb.1, by omega⟩, by rw [Below.heap_setCell _ _ _ _ (by show b ≠ W.heap.size + 1 + 1; omega), Below.heap_setCell _ _ _ _ (by show b ≠ W.heap.size + 1 + 1; omega), Below.heap_setCell _ _ _ _ (by show b ≠ W.heap.size + 1 + 1; omega)]⟩), HB9.out⟩
theorem r13_put0 (k n k' n' : Int) (ks' : Fo) (v v' : Value) (lim : Nat) (a : Option Addr) (d : Nat) (W : World) (hK : Kids W lim v' ks') (hl : lim ≤ W.heap.size) :
    Calls Try.prog 28 #[.agg #[.int .i64 k, .int .i64 n, v], .slice a 0 d, .agg #[.int .i64 k', .int .i64 n', v']] W fun e w' => ∃ u, e = .returned (.agg #[.int .i64 k', .int .i64 n', u]) ∧ KidsS w' (fun b => b < w'.heap.size ∧ (b < lim ∨ W.heap.size ≤ b)) u ks' ∧ Below W.heap.size W w' := by
  obtain ⟨p', c', rfl, _, _⟩ := hK.form
  have HK := Lib.hid (KidsS.of hK)
  generalize ks'.len = m' at *
  clear hK
  obtain ⟨wF, hwF⟩ : ∃ wF, ((W.alloc (.cells #[.int .i64 k, .int .i64 n, v] 24)).alloc (.cells #[.int .i64 k', .int .i64 n', .slice p' m' c'] 24)).alloc (.cells #[.int .i64 k', .int .i64 n', .slice p' m' c'] 24) = wF := ⟨_, rfl⟩
  have HR := Lib.hid (heap_alloc_new ((W.alloc (.cells #[.int .i64 k, .int .i64 n, v] 24)).alloc (.cells #[.int .i64 k', .int .i64 n', .slice p' m' c'] 24)) (.cells #[.int .i64 k', .int .i64 n', .slice p' m' c'] 24))
  have HB9 : Below W.heap.size W wF := by rw [← hwF]; exact (((Below.refl _ _).alloc (Nat.le_refl _) _).alloc (by simp) _).alloc (by simp; omega) _
  rw [hwF] at HR
  simp only [World.size_alloc] at HR
  have HB9 := Lib.hid HB9
  have HwF := Lib.hid hwF
  clear hwF
  go_enter Try.func28, Try.ntmps28
  go_wp2_with fail
  rw [HwF.out]
  refine bodyPost_ret (results_cell_row (p := 6) (ty := 24) rfl _ _ _ 24 #[.int .i64 k', .int .i64 n', .slice p' m' c'] (0, 0) _ rfl HR.out Try.underlying24 rfl (by kernel_rfl)) rfl ?_
  exact ⟨_, rfl, HK.out.carry (fun b hb => ⟨⟨by have := HB9.out.size; omega, .inl hb⟩, HB9.out.block b (by omega)⟩), HB9.out⟩
/-- Reference 13's Put, of a path that is there. -/
theorem r13_put (k' n' : Int) (ks' : Fo) (v' : Value) (lim : Nat) (hN' : ks'.cnt ≤ 1048576) : ∀ (xs : List Int) (k n : Int) (ks : Fo) (v : Value) (a : Option Addr) (d : Nat) (W : World), Kids W lim v ks → Kids W lim v' ks' → lim ≤ W.heap.size → RowI W a xs.length xs → xs.length ≤ d → d ≤ 9223372036854775807 → (atN k n ks xs).isSome → ks.cnt ≤ 1048576 →
    Calls Try.prog 28 #[.agg #[.int .i64 k, .int .i64 n, v], .slice a xs.length d, .agg #[.int .i64 k', .int .i64 n', v']] W fun e w' => ∃ u, e = .returned (.agg #[.int .i64 (putN k n ks xs (k', n', ks')).1, .int .i64 (putN k n ks xs (k', n', ks')).2.1, u]) ∧ KidsS w' (fun b => b < w'.heap.size ∧ (b < lim ∨ W.heap.size ≤ b)) u (putN k n ks xs (k', n', ks')).2.2 ∧ Below W.heap.size W w'
  | [], k, n, ks, v, a, d, W, _, hK', hl, _, _, _, _, _ => r13_put0 k n k' n' ks' v v' lim a d W hK' hl
  | i :: r, k, n, ks, v, a, d, W, hK, hK', hl, hr, hd, hd2, hv, hN => by
    rw [List.length_cons] at hr hd ⊢
    have hsm := hr.small
    obtain ⟨b, o, rfl, hb, hc0, _⟩ := hr.cell (k := 0) (by omega)
    have hP : W.cell? ⟨b, o, none⟩ = some (.int .i64 i) := hc0
    have hlen := Fo.len_cnt ks
    rw [atN] at hv
    by_cases hi : i < 0 ∨ (ks.len : Int) ≤ i
    · rw [if_pos hi] at hv; cases hv
    · rw [if_neg hi] at hv
      obtain ⟨j, rfl⟩ := Int.eq_ofNat_of_zero_le (show 0 ≤ i by omega)
      have hj : j < ks.len := by omega
      obtain ⟨p, c, rfl, hc1, hc2⟩ := hK.form
      obtain ⟨g, h, _, rfl, _⟩ := hK.get hj
      obtain ⟨p', c', rfl, _, _⟩ := hK'.form
      simp only [Int.toNat_natCast] at hv
      rw [putN]
      simp only [Int.toNat_natCast]
      have hcj := Fo.cnt_kids ks j hj
      by_cases h1 : d = 1
      · subst h1
        obtain rfl : r = [] := List.length_eq_zero_iff.1 (by omega)
        exact r13_putlast k n k' n' _ _ ks _ g h ks.len c _ c' j _ b o 0 0 lim W hK (by omega) hj (by omega) (by omega) (by omega) hP hl (fun kj nj vj w' hb' _ _ _ => r13_put0 kj nj k' n' ks' vj _ lim _ _ w' (hK'.below hl hb') (by have := hb'.size; omega))
      · obtain ⟨d', rfl⟩ : ∃ d', d = d' + 2 := ⟨d - 2, by omega⟩
        exact r13_putmore k n k' n' _ _ ks _ g h ks.len c _ c' j _ b o r.length d' lim W hK (by omega) hj (by omega) (by omega) (by omega) hP hl (fun kj nj vj w' hb' ek en hkj => by
          subst ek; subst en
          exact r13_put k' n' ks' _ lim hN' r _ _ _ _ _ _ w' hkj (hK'.below hl hb') (by have := hb'.size; omega) (hr.drop1'.below hb') (by omega) (by omega) hv (by omega))
end Go.Proofs.Ytfjioflggkmhcaa
