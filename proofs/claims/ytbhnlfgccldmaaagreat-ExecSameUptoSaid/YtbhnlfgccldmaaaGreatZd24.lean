/- Put together by program (merge2.py): Exm Nright Exo Exq Appn Nsame. -/
import Derived.Deep.AppendSrc
import Derived.Test.YtbhnlfgccldmaaaGreatZd12
import Derived.Test.YtbhnlfgccldmaaaGreatZd14
import Derived.Test.YtbhnlfgccldmaaaGreatZd18
import Derived.Test.YtbhnlfgccldmaaaGreatZd23
/- Package exec: by, run, every tree. By program (genexm.py). -/
namespace Go.Proofs.YtbhnlfgccldmaaaGreat
open Go.ChangeShapes Go.WideShapes Go.ChangeAt Go.RowKit
set_option linter.unusedVariables false
open Go.WideMaps Go.MapKept Go.WideElems Go.ChangeMaps
open rootTells
set_option linter.unusedSimpArgs false
theorem exec_by1 (W : World) : Calls Tryz.prog 128 #[.int .i64 1] W fun e w' => e = .returned (.func (.func 158) #[] #[]) ∧ Below W.heap.size W w' := by
  go_enter Tryz.func128, Tryz.ntmps128
  go_wp2_with fail
  go_ret
  exact ⟨rfl, Below.refl _ _⟩
set_option maxRecDepth 100000 in
theorem exec_run1 (G N : Nat) (d : Int) (sp : Option Addr) (sm sc : Nat) (p : Option Addr) (c : Nat) (ys : List Int) (W : World) (hF : ∀ w, Below W.heap.size W w → Calls Tryz.prog 158 #[.agg #[.map (some G)], .agg #[.int .i64 1, .int .i64 N, .slice sp sm sc], .int .i64 d, .slice p N c] w (GivesNw w N ys)) :
    Calls Tryz.prog 90 #[.agg #[.map (some G)], .agg #[.int .i64 1, .int .i64 N, .slice sp sm sc], .int .i64 d, .slice p N c] W (GivesNw W N ys) := by
  obtain ⟨w0, w1, hw0, hw1, hWB, hB, l0, l1⟩ := wb_start W G 1 N (.slice sp sm sc)
  have HB := Lib.hid hB
  have FC := Lib.hid (fun (u : World) (h : Below w1.heap.size w1 u) => (hWB.below h).cells)
  have HF := Lib.hid (fun (w : World) (h : Below w1.heap.size w1 w) => hF w (hB.trans (h.mono hB.size)))
  have BY := Lib.hid exec_by1
  clear hF hWB hB l0 l1
  go_enter Tryz.func90, Tryz.ntmps90
  go_wp2_with fail
  refine wp_region_held_drew (S := (fun w' => Below w1.heap.size w1 w')) (by kernel_rfl) ((Below.refl w1.heap.size w1).drew) (fun hHeld => ?_)
  refine wpAnyH_take (i := 0) (v := ?v1) rfl (by kernel_rfl) (by kernel_rfl) (by kernel_rfl) (fun _ _ _ h => h) (Or.inl ⟨by kernel_rfl, ?hy1⟩) (by assumption) ?rest1
  case hy1 => intro w hSw; clear hSw; go_simp; (first | done | with_reducible rfl)
  (try simp only [Act.put, List.getElem_toArray, List.getElem_cons_zero, List.getElem_cons_succ, List.setIfInBounds_toArray, List.set_cons_zero, List.set_cons_succ])
  refine wpAnyH_take (i := 1) (v := ?v2) rfl (by kernel_rfl) (by kernel_rfl) (by kernel_rfl) (fun _ _ _ h => h) (Or.inl ⟨by kernel_rfl, ?hy2⟩) (by assumption) ?rest2
  case hy2 => intro w hSw; (try dsimp only at hSw); obtain ⟨g0, g1, g2, g3⟩ := FC.out w hSw; go_simp; (first | done | with_reducible rfl)
  (try simp only [Act.put, List.getElem_toArray, List.getElem_cons_zero, List.getElem_cons_succ, List.setIfInBounds_toArray, List.set_cons_zero, List.set_cons_succ])
  refine wpAnyH_take (i := 3) (v := ?v3) rfl (by kernel_rfl) (by kernel_rfl) (by kernel_rfl) (fun _ _ _ h => h) (Or.inl ⟨by kernel_rfl, ?hy3⟩) (by assumption) ?rest3
  case hy3 => intro w hSw; (try dsimp only at hSw); obtain ⟨g0, g1, g2, g3⟩ := FC.out w hSw; go_simp; (first | done | with_reducible rfl)
  (try simp only [Act.put, List.getElem_toArray, List.getElem_cons_zero, List.getElem_cons_succ, List.setIfInBounds_toArray, List.set_cons_zero, List.set_cons_succ])
  refine wpAnyH_take (i := 4) (v := ?v4) rfl (by kernel_rfl) (by kernel_rfl) (by kernel_rfl) (fun _ _ _ h => h) (Or.inl ⟨by kernel_rfl, ?hy4⟩) (by assumption) ?rest4
  case hy4 => intro w hSw; (try dsimp only at hSw); obtain ⟨g0, g1, g2, g3⟩ := FC.out w hSw; go_simp; (first | done | with_reducible rfl)
  (try simp only [Act.put, List.getElem_toArray, List.getElem_cons_zero, List.getElem_cons_succ, List.setIfInBounds_toArray, List.set_cons_zero, List.set_cons_succ])
  refine wpAnyH_take (i := 5) (v := ?v5) rfl (by kernel_rfl) (by kernel_rfl) (by kernel_rfl) (fun _ _ _ h => h) (Or.inl ⟨by kernel_rfl, ?hy5⟩) (by assumption) ?rest5
  case hy5 => intro w hSw; clear hSw; go_simp; (first | done | with_reducible rfl)
  (try simp only [Act.put, List.getElem_toArray, List.getElem_cons_zero, List.getElem_cons_succ, List.setIfInBounds_toArray, List.set_cons_zero, List.set_cons_succ])
  refine wpAnyH_take (i := 6) (v := ?v6) rfl (by kernel_rfl) (by kernel_rfl) (by kernel_rfl) (fun _ _ _ h => h) (Or.inl ⟨by kernel_rfl, ?hy6⟩) (by assumption) ?rest6
  case hy6 => intro w hSw; clear hSw; go_simp; (first | done | with_reducible rfl)
  (try simp only [Act.put, List.getElem_toArray, List.getElem_cons_zero, List.getElem_cons_succ, List.setIfInBounds_toArray, List.set_cons_zero, List.set_cons_succ])
  refine wpAnyH_ready (rs := [2]) (by kernel_rfl) (by simp) ?_
  refine AllReadyH.cons rfl (fun K hK => ?_) AllReadyH.nil
  go_simp
  refine (BY.out _).mono ?_
  rintro e u ⟨rfl, hb⟩
  (try go_wp2_with fail)
  refine hK.out _ _ (hHeld.trans (hb.mono hHeld.size)) (fun hHeld2 => ?_)
  clear hK K hHeld
  have hHeld := hHeld2
  clear hHeld2
  (try simp only [Act.put, List.getElem_toArray, List.getElem_cons_zero, List.getElem_cons_succ, List.setIfInBounds_toArray, List.set_cons_zero, List.set_cons_succ])
  refine wpAnyH_ready (rs := [7]) (by kernel_rfl) (by simp) ?_
  refine AllReadyH.cons rfl (fun K hK => ?_) AllReadyH.nil
  go_simp
  refine (HF.out _ hHeld).mono ?_
  rintro e u2 ⟨q2, e2, rfl, hr, hn, hb2⟩
  (try go_wp2_with fail)
  refine hK.out _ _ (hHeld.trans (hb2.mono hHeld.size)) (fun hHeld2 => ?_)
  clear hK K hHeld
  have hHeld := hHeld2
  clear hHeld2
  (try simp only [Act.put, List.getElem_toArray, List.getElem_cons_zero, List.getElem_cons_succ, List.setIfInBounds_toArray, List.set_cons_zero, List.set_cons_succ])
  refine wpAnyH_take (i := 8) (v := ?v9) rfl (by kernel_rfl) (by kernel_rfl) (by kernel_rfl) (fun _ _ _ h => h) (Or.inl ⟨by kernel_rfl, ?hy9⟩) (by assumption) ?rest9
  case hy9 => intro w hSw; clear hSw; go_simp; (first | done | with_reducible rfl)
  (try simp only [Act.put, List.getElem_toArray, List.getElem_cons_zero, List.getElem_cons_succ, List.setIfInBounds_toArray, List.set_cons_zero, List.set_cons_succ])
  have hb1 := hb
  refine wpAnyH_done (by kernel_rfl) ?_ _
  have HR := Lib.hid (And.intro hr (And.intro hn (HB.out.trans (hHeld.mono HB.out.size))))
  have HS := Lib.hid (Nat.le_trans HB.out.size hb1.size)
  clear hr hn hb hHeld hb1
  go_wp2_with fail
  go_ret
  exact ⟨_, _, rfl, HR.out.1, fun x hx => Nat.le_trans (by simpa using HS.out) (HR.out.2.1 x hx), HR.out.2.2⟩
theorem exec_by2 (W : World) : Calls Tryz.prog 128 #[.int .i64 2] W fun e w' => e = .returned (.func (.func 152) #[] #[]) ∧ Below W.heap.size W w' := by
  go_enter Tryz.func128, Tryz.ntmps128
  go_wp2_with fail
  go_ret
  exact ⟨rfl, Below.refl _ _⟩
set_option maxRecDepth 100000 in
theorem exec_run2 (G N : Nat) (d : Int) (sp : Option Addr) (sm sc : Nat) (p : Option Addr) (c : Nat) (ys : List Int) (W : World) (hF : ∀ w, Below W.heap.size W w → Calls Tryz.prog 152 #[.agg #[.map (some G)], .agg #[.int .i64 2, .int .i64 N, .slice sp sm sc], .int .i64 d, .slice p N c] w (GivesNw w N ys)) :
    Calls Tryz.prog 90 #[.agg #[.map (some G)], .agg #[.int .i64 2, .int .i64 N, .slice sp sm sc], .int .i64 d, .slice p N c] W (GivesNw W N ys) := by
  obtain ⟨w0, w1, hw0, hw1, hWB, hB, l0, l1⟩ := wb_start W G 2 N (.slice sp sm sc)
  have HB := Lib.hid hB
  have FC := Lib.hid (fun (u : World) (h : Below w1.heap.size w1 u) => (hWB.below h).cells)
  have HF := Lib.hid (fun (w : World) (h : Below w1.heap.size w1 w) => hF w (hB.trans (h.mono hB.size)))
  have BY := Lib.hid exec_by2
  clear hF hWB hB l0 l1
  go_enter Tryz.func90, Tryz.ntmps90
  go_wp2_with fail
  refine wp_region_held_drew (S := (fun w' => Below w1.heap.size w1 w')) (by kernel_rfl) ((Below.refl w1.heap.size w1).drew) (fun hHeld => ?_)
  refine wpAnyH_take (i := 0) (v := ?v10) rfl (by kernel_rfl) (by kernel_rfl) (by kernel_rfl) (fun _ _ _ h => h) (Or.inl ⟨by kernel_rfl, ?hy10⟩) (by assumption) ?rest10
  case hy10 => intro w hSw; clear hSw; go_simp; (first | done | with_reducible rfl)
  (try simp only [Act.put, List.getElem_toArray, List.getElem_cons_zero, List.getElem_cons_succ, List.setIfInBounds_toArray, List.set_cons_zero, List.set_cons_succ])
  refine wpAnyH_take (i := 1) (v := ?v11) rfl (by kernel_rfl) (by kernel_rfl) (by kernel_rfl) (fun _ _ _ h => h) (Or.inl ⟨by kernel_rfl, ?hy11⟩) (by assumption) ?rest11
  case hy11 => intro w hSw; (try dsimp only at hSw); obtain ⟨g0, g1, g2, g3⟩ := FC.out w hSw; go_simp; (first | done | with_reducible rfl)
  (try simp only [Act.put, List.getElem_toArray, List.getElem_cons_zero, List.getElem_cons_succ, List.setIfInBounds_toArray, List.set_cons_zero, List.set_cons_succ])
  refine wpAnyH_take (i := 3) (v := ?v12) rfl (by kernel_rfl) (by kernel_rfl) (by kernel_rfl) (fun _ _ _ h => h) (Or.inl ⟨by kernel_rfl, ?hy12⟩) (by assumption) ?rest12
  case hy12 => intro w hSw; (try dsimp only at hSw); obtain ⟨g0, g1, g2, g3⟩ := FC.out w hSw; go_simp; (first | done | with_reducible rfl)
  (try simp only [Act.put, List.getElem_toArray, List.getElem_cons_zero, List.getElem_cons_succ, List.setIfInBounds_toArray, List.set_cons_zero, List.set_cons_succ])
  refine wpAnyH_take (i := 4) (v := ?v13) rfl (by kernel_rfl) (by kernel_rfl) (by kernel_rfl) (fun _ _ _ h => h) (Or.inl ⟨by kernel_rfl, ?hy13⟩) (by assumption) ?rest13
  case hy13 => intro w hSw; (try dsimp only at hSw); obtain ⟨g0, g1, g2, g3⟩ := FC.out w hSw; go_simp; (first | done | with_reducible rfl)
  (try simp only [Act.put, List.getElem_toArray, List.getElem_cons_zero, List.getElem_cons_succ, List.setIfInBounds_toArray, List.set_cons_zero, List.set_cons_succ])
  refine wpAnyH_take (i := 5) (v := ?v14) rfl (by kernel_rfl) (by kernel_rfl) (by kernel_rfl) (fun _ _ _ h => h) (Or.inl ⟨by kernel_rfl, ?hy14⟩) (by assumption) ?rest14
  case hy14 => intro w hSw; clear hSw; go_simp; (first | done | with_reducible rfl)
  (try simp only [Act.put, List.getElem_toArray, List.getElem_cons_zero, List.getElem_cons_succ, List.setIfInBounds_toArray, List.set_cons_zero, List.set_cons_succ])
  refine wpAnyH_take (i := 6) (v := ?v15) rfl (by kernel_rfl) (by kernel_rfl) (by kernel_rfl) (fun _ _ _ h => h) (Or.inl ⟨by kernel_rfl, ?hy15⟩) (by assumption) ?rest15
  case hy15 => intro w hSw; clear hSw; go_simp; (first | done | with_reducible rfl)
  (try simp only [Act.put, List.getElem_toArray, List.getElem_cons_zero, List.getElem_cons_succ, List.setIfInBounds_toArray, List.set_cons_zero, List.set_cons_succ])
  refine wpAnyH_ready (rs := [2]) (by kernel_rfl) (by simp) ?_
  refine AllReadyH.cons rfl (fun K hK => ?_) AllReadyH.nil
  go_simp
  refine (BY.out _).mono ?_
  rintro e u ⟨rfl, hb⟩
  (try go_wp2_with fail)
  refine hK.out _ _ (hHeld.trans (hb.mono hHeld.size)) (fun hHeld2 => ?_)
  clear hK K hHeld
  have hHeld := hHeld2
  clear hHeld2
  (try simp only [Act.put, List.getElem_toArray, List.getElem_cons_zero, List.getElem_cons_succ, List.setIfInBounds_toArray, List.set_cons_zero, List.set_cons_succ])
  refine wpAnyH_ready (rs := [7]) (by kernel_rfl) (by simp) ?_
  refine AllReadyH.cons rfl (fun K hK => ?_) AllReadyH.nil
  go_simp
  refine (HF.out _ hHeld).mono ?_
  rintro e u2 ⟨q2, e2, rfl, hr, hn, hb2⟩
  (try go_wp2_with fail)
  refine hK.out _ _ (hHeld.trans (hb2.mono hHeld.size)) (fun hHeld2 => ?_)
  clear hK K hHeld
  have hHeld := hHeld2
  clear hHeld2
  (try simp only [Act.put, List.getElem_toArray, List.getElem_cons_zero, List.getElem_cons_succ, List.setIfInBounds_toArray, List.set_cons_zero, List.set_cons_succ])
  refine wpAnyH_take (i := 8) (v := ?v18) rfl (by kernel_rfl) (by kernel_rfl) (by kernel_rfl) (fun _ _ _ h => h) (Or.inl ⟨by kernel_rfl, ?hy18⟩) (by assumption) ?rest18
  case hy18 => intro w hSw; clear hSw; go_simp; (first | done | with_reducible rfl)
  (try simp only [Act.put, List.getElem_toArray, List.getElem_cons_zero, List.getElem_cons_succ, List.setIfInBounds_toArray, List.set_cons_zero, List.set_cons_succ])
  have hb1 := hb
  refine wpAnyH_done (by kernel_rfl) ?_ _
  have HR := Lib.hid (And.intro hr (And.intro hn (HB.out.trans (hHeld.mono HB.out.size))))
  have HS := Lib.hid (Nat.le_trans HB.out.size hb1.size)
  clear hr hn hb hHeld hb1
  go_wp2_with fail
  go_ret
  exact ⟨_, _, rfl, HR.out.1, fun x hx => Nat.le_trans (by simpa using HS.out) (HR.out.2.1 x hx), HR.out.2.2⟩
theorem exec_by3 (W : World) : Calls Tryz.prog 128 #[.int .i64 3] W fun e w' => e = .returned (.func (.func 153) #[] #[]) ∧ Below W.heap.size W w' := by
  go_enter Tryz.func128, Tryz.ntmps128
  go_wp2_with fail
  go_ret
  exact ⟨rfl, Below.refl _ _⟩
set_option maxRecDepth 100000 in
theorem exec_run3 (G N : Nat) (d : Int) (sp : Option Addr) (sm sc : Nat) (p : Option Addr) (c : Nat) (ys : List Int) (W : World) (hF : ∀ w, Below W.heap.size W w → Calls Tryz.prog 153 #[.agg #[.map (some G)], .agg #[.int .i64 3, .int .i64 N, .slice sp sm sc], .int .i64 d, .slice p N c] w (GivesNw w N ys)) :
    Calls Tryz.prog 90 #[.agg #[.map (some G)], .agg #[.int .i64 3, .int .i64 N, .slice sp sm sc], .int .i64 d, .slice p N c] W (GivesNw W N ys) := by
  obtain ⟨w0, w1, hw0, hw1, hWB, hB, l0, l1⟩ := wb_start W G 3 N (.slice sp sm sc)
  have HB := Lib.hid hB
  have FC := Lib.hid (fun (u : World) (h : Below w1.heap.size w1 u) => (hWB.below h).cells)
  have HF := Lib.hid (fun (w : World) (h : Below w1.heap.size w1 w) => hF w (hB.trans (h.mono hB.size)))
  have BY := Lib.hid exec_by3
  clear hF hWB hB l0 l1
  go_enter Tryz.func90, Tryz.ntmps90
  go_wp2_with fail
  refine wp_region_held_drew (S := (fun w' => Below w1.heap.size w1 w')) (by kernel_rfl) ((Below.refl w1.heap.size w1).drew) (fun hHeld => ?_)
  refine wpAnyH_take (i := 0) (v := ?v19) rfl (by kernel_rfl) (by kernel_rfl) (by kernel_rfl) (fun _ _ _ h => h) (Or.inl ⟨by kernel_rfl, ?hy19⟩) (by assumption) ?rest19
  case hy19 => intro w hSw; clear hSw; go_simp; (first | done | with_reducible rfl)
  (try simp only [Act.put, List.getElem_toArray, List.getElem_cons_zero, List.getElem_cons_succ, List.setIfInBounds_toArray, List.set_cons_zero, List.set_cons_succ])
  refine wpAnyH_take (i := 1) (v := ?v20) rfl (by kernel_rfl) (by kernel_rfl) (by kernel_rfl) (fun _ _ _ h => h) (Or.inl ⟨by kernel_rfl, ?hy20⟩) (by assumption) ?rest20
  case hy20 => intro w hSw; (try dsimp only at hSw); obtain ⟨g0, g1, g2, g3⟩ := FC.out w hSw; go_simp; (first | done | with_reducible rfl)
  (try simp only [Act.put, List.getElem_toArray, List.getElem_cons_zero, List.getElem_cons_succ, List.setIfInBounds_toArray, List.set_cons_zero, List.set_cons_succ])
  refine wpAnyH_take (i := 3) (v := ?v21) rfl (by kernel_rfl) (by kernel_rfl) (by kernel_rfl) (fun _ _ _ h => h) (Or.inl ⟨by kernel_rfl, ?hy21⟩) (by assumption) ?rest21
  case hy21 => intro w hSw; (try dsimp only at hSw); obtain ⟨g0, g1, g2, g3⟩ := FC.out w hSw; go_simp; (first | done | with_reducible rfl)
  (try simp only [Act.put, List.getElem_toArray, List.getElem_cons_zero, List.getElem_cons_succ, List.setIfInBounds_toArray, List.set_cons_zero, List.set_cons_succ])
  refine wpAnyH_take (i := 4) (v := ?v22) rfl (by kernel_rfl) (by kernel_rfl) (by kernel_rfl) (fun _ _ _ h => h) (Or.inl ⟨by kernel_rfl, ?hy22⟩) (by assumption) ?rest22
  case hy22 => intro w hSw; (try dsimp only at hSw); obtain ⟨g0, g1, g2, g3⟩ := FC.out w hSw; go_simp; (first | done | with_reducible rfl)
  (try simp only [Act.put, List.getElem_toArray, List.getElem_cons_zero, List.getElem_cons_succ, List.setIfInBounds_toArray, List.set_cons_zero, List.set_cons_succ])
  refine wpAnyH_take (i := 5) (v := ?v23) rfl (by kernel_rfl) (by kernel_rfl) (by kernel_rfl) (fun _ _ _ h => h) (Or.inl ⟨by kernel_rfl, ?hy23⟩) (by assumption) ?rest23
  case hy23 => intro w hSw; clear hSw; go_simp; (first | done | with_reducible rfl)
  (try simp only [Act.put, List.getElem_toArray, List.getElem_cons_zero, List.getElem_cons_succ, List.setIfInBounds_toArray, List.set_cons_zero, List.set_cons_succ])
  refine wpAnyH_take (i := 6) (v := ?v24) rfl (by kernel_rfl) (by kernel_rfl) (by kernel_rfl) (fun _ _ _ h => h) (Or.inl ⟨by kernel_rfl, ?hy24⟩) (by assumption) ?rest24
  case hy24 => intro w hSw; clear hSw; go_simp; (first | done | with_reducible rfl)
  (try simp only [Act.put, List.getElem_toArray, List.getElem_cons_zero, List.getElem_cons_succ, List.setIfInBounds_toArray, List.set_cons_zero, List.set_cons_succ])
  refine wpAnyH_ready (rs := [2]) (by kernel_rfl) (by simp) ?_
  refine AllReadyH.cons rfl (fun K hK => ?_) AllReadyH.nil
  go_simp
  refine (BY.out _).mono ?_
  rintro e u ⟨rfl, hb⟩
  (try go_wp2_with fail)
  refine hK.out _ _ (hHeld.trans (hb.mono hHeld.size)) (fun hHeld2 => ?_)
  clear hK K hHeld
  have hHeld := hHeld2
  clear hHeld2
  (try simp only [Act.put, List.getElem_toArray, List.getElem_cons_zero, List.getElem_cons_succ, List.setIfInBounds_toArray, List.set_cons_zero, List.set_cons_succ])
  refine wpAnyH_ready (rs := [7]) (by kernel_rfl) (by simp) ?_
  refine AllReadyH.cons rfl (fun K hK => ?_) AllReadyH.nil
  go_simp
  refine (HF.out _ hHeld).mono ?_
  rintro e u2 ⟨q2, e2, rfl, hr, hn, hb2⟩
  (try go_wp2_with fail)
  refine hK.out _ _ (hHeld.trans (hb2.mono hHeld.size)) (fun hHeld2 => ?_)
  clear hK K hHeld
  have hHeld := hHeld2
  clear hHeld2
  (try simp only [Act.put, List.getElem_toArray, List.getElem_cons_zero, List.getElem_cons_succ, List.setIfInBounds_toArray, List.set_cons_zero, List.set_cons_succ])
  refine wpAnyH_take (i := 8) (v := ?v27) rfl (by kernel_rfl) (by kernel_rfl) (by kernel_rfl) (fun _ _ _ h => h) (Or.inl ⟨by kernel_rfl, ?hy27⟩) (by assumption) ?rest27
  case hy27 => intro w hSw; clear hSw; go_simp; (first | done | with_reducible rfl)
  (try simp only [Act.put, List.getElem_toArray, List.getElem_cons_zero, List.getElem_cons_succ, List.setIfInBounds_toArray, List.set_cons_zero, List.set_cons_succ])
  have hb1 := hb
  refine wpAnyH_done (by kernel_rfl) ?_ _
  have HR := Lib.hid (And.intro hr (And.intro hn (HB.out.trans (hHeld.mono HB.out.size))))
  have HS := Lib.hid (Nat.le_trans HB.out.size hb1.size)
  clear hr hn hb hHeld hb1
  go_wp2_with fail
  go_ret
  exact ⟨_, _, rfl, HR.out.1, fun x hx => Nat.le_trans (by simpa using HS.out) (HR.out.2.1 x hx), HR.out.2.2⟩
theorem exec_by4 (W : World) : Calls Tryz.prog 128 #[.int .i64 4] W fun e w' => e = .returned (.func (.func 154) #[] #[]) ∧ Below W.heap.size W w' := by
  go_enter Tryz.func128, Tryz.ntmps128
  go_wp2_with fail
  go_ret
  exact ⟨rfl, Below.refl _ _⟩
set_option maxRecDepth 100000 in
theorem exec_run4 (G N : Nat) (d : Int) (sp : Option Addr) (sm sc : Nat) (p : Option Addr) (c : Nat) (ys : List Int) (W : World) (hF : ∀ w, Below W.heap.size W w → Calls Tryz.prog 154 #[.agg #[.map (some G)], .agg #[.int .i64 4, .int .i64 N, .slice sp sm sc], .int .i64 d, .slice p N c] w (GivesNw w N ys)) :
    Calls Tryz.prog 90 #[.agg #[.map (some G)], .agg #[.int .i64 4, .int .i64 N, .slice sp sm sc], .int .i64 d, .slice p N c] W (GivesNw W N ys) := by
  obtain ⟨w0, w1, hw0, hw1, hWB, hB, l0, l1⟩ := wb_start W G 4 N (.slice sp sm sc)
  have HB := Lib.hid hB
  have FC := Lib.hid (fun (u : World) (h : Below w1.heap.size w1 u) => (hWB.below h).cells)
  have HF := Lib.hid (fun (w : World) (h : Below w1.heap.size w1 w) => hF w (hB.trans (h.mono hB.size)))
  have BY := Lib.hid exec_by4
  clear hF hWB hB l0 l1
  go_enter Tryz.func90, Tryz.ntmps90
  go_wp2_with fail
  refine wp_region_held_drew (S := (fun w' => Below w1.heap.size w1 w')) (by kernel_rfl) ((Below.refl w1.heap.size w1).drew) (fun hHeld => ?_)
  refine wpAnyH_take (i := 0) (v := ?v28) rfl (by kernel_rfl) (by kernel_rfl) (by kernel_rfl) (fun _ _ _ h => h) (Or.inl ⟨by kernel_rfl, ?hy28⟩) (by assumption) ?rest28
  case hy28 => intro w hSw; clear hSw; go_simp; (first | done | with_reducible rfl)
  (try simp only [Act.put, List.getElem_toArray, List.getElem_cons_zero, List.getElem_cons_succ, List.setIfInBounds_toArray, List.set_cons_zero, List.set_cons_succ])
  refine wpAnyH_take (i := 1) (v := ?v29) rfl (by kernel_rfl) (by kernel_rfl) (by kernel_rfl) (fun _ _ _ h => h) (Or.inl ⟨by kernel_rfl, ?hy29⟩) (by assumption) ?rest29
  case hy29 => intro w hSw; (try dsimp only at hSw); obtain ⟨g0, g1, g2, g3⟩ := FC.out w hSw; go_simp; (first | done | with_reducible rfl)
  (try simp only [Act.put, List.getElem_toArray, List.getElem_cons_zero, List.getElem_cons_succ, List.setIfInBounds_toArray, List.set_cons_zero, List.set_cons_succ])
  refine wpAnyH_take (i := 3) (v := ?v30) rfl (by kernel_rfl) (by kernel_rfl) (by kernel_rfl) (fun _ _ _ h => h) (Or.inl ⟨by kernel_rfl, ?hy30⟩) (by assumption) ?rest30
  case hy30 => intro w hSw; (try dsimp only at hSw); obtain ⟨g0, g1, g2, g3⟩ := FC.out w hSw; go_simp; (first | done | with_reducible rfl)
  (try simp only [Act.put, List.getElem_toArray, List.getElem_cons_zero, List.getElem_cons_succ, List.setIfInBounds_toArray, List.set_cons_zero, List.set_cons_succ])
  refine wpAnyH_take (i := 4) (v := ?v31) rfl (by kernel_rfl) (by kernel_rfl) (by kernel_rfl) (fun _ _ _ h => h) (Or.inl ⟨by kernel_rfl, ?hy31⟩) (by assumption) ?rest31
  case hy31 => intro w hSw; (try dsimp only at hSw); obtain ⟨g0, g1, g2, g3⟩ := FC.out w hSw; go_simp; (first | done | with_reducible rfl)
  (try simp only [Act.put, List.getElem_toArray, List.getElem_cons_zero, List.getElem_cons_succ, List.setIfInBounds_toArray, List.set_cons_zero, List.set_cons_succ])
  refine wpAnyH_take (i := 5) (v := ?v32) rfl (by kernel_rfl) (by kernel_rfl) (by kernel_rfl) (fun _ _ _ h => h) (Or.inl ⟨by kernel_rfl, ?hy32⟩) (by assumption) ?rest32
  case hy32 => intro w hSw; clear hSw; go_simp; (first | done | with_reducible rfl)
  (try simp only [Act.put, List.getElem_toArray, List.getElem_cons_zero, List.getElem_cons_succ, List.setIfInBounds_toArray, List.set_cons_zero, List.set_cons_succ])
  refine wpAnyH_take (i := 6) (v := ?v33) rfl (by kernel_rfl) (by kernel_rfl) (by kernel_rfl) (fun _ _ _ h => h) (Or.inl ⟨by kernel_rfl, ?hy33⟩) (by assumption) ?rest33
  case hy33 => intro w hSw; clear hSw; go_simp; (first | done | with_reducible rfl)
  (try simp only [Act.put, List.getElem_toArray, List.getElem_cons_zero, List.getElem_cons_succ, List.setIfInBounds_toArray, List.set_cons_zero, List.set_cons_succ])
  refine wpAnyH_ready (rs := [2]) (by kernel_rfl) (by simp) ?_
  refine AllReadyH.cons rfl (fun K hK => ?_) AllReadyH.nil
  go_simp
  refine (BY.out _).mono ?_
  rintro e u ⟨rfl, hb⟩
  (try go_wp2_with fail)
  refine hK.out _ _ (hHeld.trans (hb.mono hHeld.size)) (fun hHeld2 => ?_)
  clear hK K hHeld
  have hHeld := hHeld2
  clear hHeld2
  (try simp only [Act.put, List.getElem_toArray, List.getElem_cons_zero, List.getElem_cons_succ, List.setIfInBounds_toArray, List.set_cons_zero, List.set_cons_succ])
  refine wpAnyH_ready (rs := [7]) (by kernel_rfl) (by simp) ?_
  refine AllReadyH.cons rfl (fun K hK => ?_) AllReadyH.nil
  go_simp
  refine (HF.out _ hHeld).mono ?_
  rintro e u2 ⟨q2, e2, rfl, hr, hn, hb2⟩
  (try go_wp2_with fail)
  refine hK.out _ _ (hHeld.trans (hb2.mono hHeld.size)) (fun hHeld2 => ?_)
  clear hK K hHeld
  have hHeld := hHeld2
  clear hHeld2
  (try simp only [Act.put, List.getElem_toArray, List.getElem_cons_zero, List.getElem_cons_succ, List.setIfInBounds_toArray, List.set_cons_zero, List.set_cons_succ])
  refine wpAnyH_take (i := 8) (v := ?v36) rfl (by kernel_rfl) (by kernel_rfl) (by kernel_rfl) (fun _ _ _ h => h) (Or.inl ⟨by kernel_rfl, ?hy36⟩) (by assumption) ?rest36
  case hy36 => intro w hSw; clear hSw; go_simp; (first | done | with_reducible rfl)
  (try simp only [Act.put, List.getElem_toArray, List.getElem_cons_zero, List.getElem_cons_succ, List.setIfInBounds_toArray, List.set_cons_zero, List.set_cons_succ])
  have hb1 := hb
  refine wpAnyH_done (by kernel_rfl) ?_ _
  have HR := Lib.hid (And.intro hr (And.intro hn (HB.out.trans (hHeld.mono HB.out.size))))
  have HS := Lib.hid (Nat.le_trans HB.out.size hb1.size)
  clear hr hn hb hHeld hb1
  go_wp2_with fail
  go_ret
  exact ⟨_, _, rfl, HR.out.1, fun x hx => Nat.le_trans (by simpa using HS.out) (HR.out.2.1 x hx), HR.out.2.2⟩
theorem exec_by5 (W : World) : Calls Tryz.prog 128 #[.int .i64 5] W fun e w' => e = .returned (.func (.func 155) #[] #[]) ∧ Below W.heap.size W w' := by
  go_enter Tryz.func128, Tryz.ntmps128
  go_wp2_with fail
  go_ret
  exact ⟨rfl, Below.refl _ _⟩
set_option maxRecDepth 100000 in
theorem exec_run5 (G N : Nat) (d : Int) (sp : Option Addr) (sm sc : Nat) (p : Option Addr) (c : Nat) (ys : List Int) (W : World) (hF : ∀ w, Below W.heap.size W w → Calls Tryz.prog 155 #[.agg #[.map (some G)], .agg #[.int .i64 5, .int .i64 N, .slice sp sm sc], .int .i64 d, .slice p N c] w (GivesNw w N ys)) :
    Calls Tryz.prog 90 #[.agg #[.map (some G)], .agg #[.int .i64 5, .int .i64 N, .slice sp sm sc], .int .i64 d, .slice p N c] W (GivesNw W N ys) := by
  obtain ⟨w0, w1, hw0, hw1, hWB, hB, l0, l1⟩ := wb_start W G 5 N (.slice sp sm sc)
  have HB := Lib.hid hB
  have FC := Lib.hid (fun (u : World) (h : Below w1.heap.size w1 u) => (hWB.below h).cells)
  have HF := Lib.hid (fun (w : World) (h : Below w1.heap.size w1 w) => hF w (hB.trans (h.mono hB.size)))
  have BY := Lib.hid exec_by5
  clear hF hWB hB l0 l1
  go_enter Tryz.func90, Tryz.ntmps90
  go_wp2_with fail
  refine wp_region_held_drew (S := (fun w' => Below w1.heap.size w1 w')) (by kernel_rfl) ((Below.refl w1.heap.size w1).drew) (fun hHeld => ?_)
  refine wpAnyH_take (i := 0) (v := ?v37) rfl (by kernel_rfl) (by kernel_rfl) (by kernel_rfl) (fun _ _ _ h => h) (Or.inl ⟨by kernel_rfl, ?hy37⟩) (by assumption) ?rest37
  case hy37 => intro w hSw; clear hSw; go_simp; (first | done | with_reducible rfl)
  (try simp only [Act.put, List.getElem_toArray, List.getElem_cons_zero, List.getElem_cons_succ, List.setIfInBounds_toArray, List.set_cons_zero, List.set_cons_succ])
  refine wpAnyH_take (i := 1) (v := ?v38) rfl (by kernel_rfl) (by kernel_rfl) (by kernel_rfl) (fun _ _ _ h => h) (Or.inl ⟨by kernel_rfl, ?hy38⟩) (by assumption) ?rest38
  case hy38 => intro w hSw; (try dsimp only at hSw); obtain ⟨g0, g1, g2, g3⟩ := FC.out w hSw; go_simp; (first | done | with_reducible rfl)
  (try simp only [Act.put, List.getElem_toArray, List.getElem_cons_zero, List.getElem_cons_succ, List.setIfInBounds_toArray, List.set_cons_zero, List.set_cons_succ])
  refine wpAnyH_take (i := 3) (v := ?v39) rfl (by kernel_rfl) (by kernel_rfl) (by kernel_rfl) (fun _ _ _ h => h) (Or.inl ⟨by kernel_rfl, ?hy39⟩) (by assumption) ?rest39
  case hy39 => intro w hSw; (try dsimp only at hSw); obtain ⟨g0, g1, g2, g3⟩ := FC.out w hSw; go_simp; (first | done | with_reducible rfl)
  (try simp only [Act.put, List.getElem_toArray, List.getElem_cons_zero, List.getElem_cons_succ, List.setIfInBounds_toArray, List.set_cons_zero, List.set_cons_succ])
  refine wpAnyH_take (i := 4) (v := ?v40) rfl (by kernel_rfl) (by kernel_rfl) (by kernel_rfl) (fun _ _ _ h => h) (Or.inl ⟨by kernel_rfl, ?hy40⟩) (by assumption) ?rest40
  case hy40 => intro w hSw; (try dsimp only at hSw); obtain ⟨g0, g1, g2, g3⟩ := FC.out w hSw; go_simp; (first | done | with_reducible rfl)
  (try simp only [Act.put, List.getElem_toArray, List.getElem_cons_zero, List.getElem_cons_succ, List.setIfInBounds_toArray, List.set_cons_zero, List.set_cons_succ])
  refine wpAnyH_take (i := 5) (v := ?v41) rfl (by kernel_rfl) (by kernel_rfl) (by kernel_rfl) (fun _ _ _ h => h) (Or.inl ⟨by kernel_rfl, ?hy41⟩) (by assumption) ?rest41
  case hy41 => intro w hSw; clear hSw; go_simp; (first | done | with_reducible rfl)
  (try simp only [Act.put, List.getElem_toArray, List.getElem_cons_zero, List.getElem_cons_succ, List.setIfInBounds_toArray, List.set_cons_zero, List.set_cons_succ])
  refine wpAnyH_take (i := 6) (v := ?v42) rfl (by kernel_rfl) (by kernel_rfl) (by kernel_rfl) (fun _ _ _ h => h) (Or.inl ⟨by kernel_rfl, ?hy42⟩) (by assumption) ?rest42
  case hy42 => intro w hSw; clear hSw; go_simp; (first | done | with_reducible rfl)
  (try simp only [Act.put, List.getElem_toArray, List.getElem_cons_zero, List.getElem_cons_succ, List.setIfInBounds_toArray, List.set_cons_zero, List.set_cons_succ])
  refine wpAnyH_ready (rs := [2]) (by kernel_rfl) (by simp) ?_
  refine AllReadyH.cons rfl (fun K hK => ?_) AllReadyH.nil
  go_simp
  refine (BY.out _).mono ?_
  rintro e u ⟨rfl, hb⟩
  (try go_wp2_with fail)
  refine hK.out _ _ (hHeld.trans (hb.mono hHeld.size)) (fun hHeld2 => ?_)
  clear hK K hHeld
  have hHeld := hHeld2
  clear hHeld2
  (try simp only [Act.put, List.getElem_toArray, List.getElem_cons_zero, List.getElem_cons_succ, List.setIfInBounds_toArray, List.set_cons_zero, List.set_cons_succ])
  refine wpAnyH_ready (rs := [7]) (by kernel_rfl) (by simp) ?_
  refine AllReadyH.cons rfl (fun K hK => ?_) AllReadyH.nil
  go_simp
  refine (HF.out _ hHeld).mono ?_
  rintro e u2 ⟨q2, e2, rfl, hr, hn, hb2⟩
  (try go_wp2_with fail)
  refine hK.out _ _ (hHeld.trans (hb2.mono hHeld.size)) (fun hHeld2 => ?_)
  clear hK K hHeld
  have hHeld := hHeld2
  clear hHeld2
  (try simp only [Act.put, List.getElem_toArray, List.getElem_cons_zero, List.getElem_cons_succ, List.setIfInBounds_toArray, List.set_cons_zero, List.set_cons_succ])
  refine wpAnyH_take (i := 8) (v := ?v45) rfl (by kernel_rfl) (by kernel_rfl) (by kernel_rfl) (fun _ _ _ h => h) (Or.inl ⟨by kernel_rfl, ?hy45⟩) (by assumption) ?rest45
  case hy45 => intro w hSw; clear hSw; go_simp; (first | done | with_reducible rfl)
  (try simp only [Act.put, List.getElem_toArray, List.getElem_cons_zero, List.getElem_cons_succ, List.setIfInBounds_toArray, List.set_cons_zero, List.set_cons_succ])
  have hb1 := hb
  refine wpAnyH_done (by kernel_rfl) ?_ _
  have HR := Lib.hid (And.intro hr (And.intro hn (HB.out.trans (hHeld.mono HB.out.size))))
  have HS := Lib.hid (Nat.le_trans HB.out.size hb1.size)
  clear hr hn hb hHeld hb1
  go_wp2_with fail
  go_ret
  exact ⟨_, _, rfl, HR.out.1, fun x hx => Nat.le_trans (by simpa using HS.out) (HR.out.2.1 x hx), HR.out.2.2⟩
theorem exec_by6 (W : World) : Calls Tryz.prog 128 #[.int .i64 6] W fun e w' => e = .returned (.func (.func 156) #[] #[]) ∧ Below W.heap.size W w' := by
  go_enter Tryz.func128, Tryz.ntmps128
  go_wp2_with fail
  go_ret
  exact ⟨rfl, Below.refl _ _⟩
set_option maxRecDepth 100000 in
theorem exec_run6 (G N : Nat) (d : Int) (sp : Option Addr) (sm sc : Nat) (p : Option Addr) (c : Nat) (ys : List Int) (W : World) (hF : ∀ w, Below W.heap.size W w → Calls Tryz.prog 156 #[.agg #[.map (some G)], .agg #[.int .i64 6, .int .i64 N, .slice sp sm sc], .int .i64 d, .slice p N c] w (GivesNw w N ys)) :
    Calls Tryz.prog 90 #[.agg #[.map (some G)], .agg #[.int .i64 6, .int .i64 N, .slice sp sm sc], .int .i64 d, .slice p N c] W (GivesNw W N ys) := by
  obtain ⟨w0, w1, hw0, hw1, hWB, hB, l0, l1⟩ := wb_start W G 6 N (.slice sp sm sc)
  have HB := Lib.hid hB
  have FC := Lib.hid (fun (u : World) (h : Below w1.heap.size w1 u) => (hWB.below h).cells)
  have HF := Lib.hid (fun (w : World) (h : Below w1.heap.size w1 w) => hF w (hB.trans (h.mono hB.size)))
  have BY := Lib.hid exec_by6
  clear hF hWB hB l0 l1
  go_enter Tryz.func90, Tryz.ntmps90
  go_wp2_with fail
  refine wp_region_held_drew (S := (fun w' => Below w1.heap.size w1 w')) (by kernel_rfl) ((Below.refl w1.heap.size w1).drew) (fun hHeld => ?_)
  refine wpAnyH_take (i := 0) (v := ?v46) rfl (by kernel_rfl) (by kernel_rfl) (by kernel_rfl) (fun _ _ _ h => h) (Or.inl ⟨by kernel_rfl, ?hy46⟩) (by assumption) ?rest46
  case hy46 => intro w hSw; clear hSw; go_simp; (first | done | with_reducible rfl)
  (try simp only [Act.put, List.getElem_toArray, List.getElem_cons_zero, List.getElem_cons_succ, List.setIfInBounds_toArray, List.set_cons_zero, List.set_cons_succ])
  refine wpAnyH_take (i := 1) (v := ?v47) rfl (by kernel_rfl) (by kernel_rfl) (by kernel_rfl) (fun _ _ _ h => h) (Or.inl ⟨by kernel_rfl, ?hy47⟩) (by assumption) ?rest47
  case hy47 => intro w hSw; (try dsimp only at hSw); obtain ⟨g0, g1, g2, g3⟩ := FC.out w hSw; go_simp; (first | done | with_reducible rfl)
  (try simp only [Act.put, List.getElem_toArray, List.getElem_cons_zero, List.getElem_cons_succ, List.setIfInBounds_toArray, List.set_cons_zero, List.set_cons_succ])
  refine wpAnyH_take (i := 3) (v := ?v48) rfl (by kernel_rfl) (by kernel_rfl) (by kernel_rfl) (fun _ _ _ h => h) (Or.inl ⟨by kernel_rfl, ?hy48⟩) (by assumption) ?rest48
  case hy48 => intro w hSw; (try dsimp only at hSw); obtain ⟨g0, g1, g2, g3⟩ := FC.out w hSw; go_simp; (first | done | with_reducible rfl)
  (try simp only [Act.put, List.getElem_toArray, List.getElem_cons_zero, List.getElem_cons_succ, List.setIfInBounds_toArray, List.set_cons_zero, List.set_cons_succ])
  refine wpAnyH_take (i := 4) (v := ?v49) rfl (by kernel_rfl) (by kernel_rfl) (by kernel_rfl) (fun _ _ _ h => h) (Or.inl ⟨by kernel_rfl, ?hy49⟩) (by assumption) ?rest49
  case hy49 => intro w hSw; (try dsimp only at hSw); obtain ⟨g0, g1, g2, g3⟩ := FC.out w hSw; go_simp; (first | done | with_reducible rfl)
  (try simp only [Act.put, List.getElem_toArray, List.getElem_cons_zero, List.getElem_cons_succ, List.setIfInBounds_toArray, List.set_cons_zero, List.set_cons_succ])
  refine wpAnyH_take (i := 5) (v := ?v50) rfl (by kernel_rfl) (by kernel_rfl) (by kernel_rfl) (fun _ _ _ h => h) (Or.inl ⟨by kernel_rfl, ?hy50⟩) (by assumption) ?rest50
  case hy50 => intro w hSw; clear hSw; go_simp; (first | done | with_reducible rfl)
  (try simp only [Act.put, List.getElem_toArray, List.getElem_cons_zero, List.getElem_cons_succ, List.setIfInBounds_toArray, List.set_cons_zero, List.set_cons_succ])
  refine wpAnyH_take (i := 6) (v := ?v51) rfl (by kernel_rfl) (by kernel_rfl) (by kernel_rfl) (fun _ _ _ h => h) (Or.inl ⟨by kernel_rfl, ?hy51⟩) (by assumption) ?rest51
  case hy51 => intro w hSw; clear hSw; go_simp; (first | done | with_reducible rfl)
  (try simp only [Act.put, List.getElem_toArray, List.getElem_cons_zero, List.getElem_cons_succ, List.setIfInBounds_toArray, List.set_cons_zero, List.set_cons_succ])
  refine wpAnyH_ready (rs := [2]) (by kernel_rfl) (by simp) ?_
  refine AllReadyH.cons rfl (fun K hK => ?_) AllReadyH.nil
  go_simp
  refine (BY.out _).mono ?_
  rintro e u ⟨rfl, hb⟩
  (try go_wp2_with fail)
  refine hK.out _ _ (hHeld.trans (hb.mono hHeld.size)) (fun hHeld2 => ?_)
  clear hK K hHeld
  have hHeld := hHeld2
  clear hHeld2
  (try simp only [Act.put, List.getElem_toArray, List.getElem_cons_zero, List.getElem_cons_succ, List.setIfInBounds_toArray, List.set_cons_zero, List.set_cons_succ])
  refine wpAnyH_ready (rs := [7]) (by kernel_rfl) (by simp) ?_
  refine AllReadyH.cons rfl (fun K hK => ?_) AllReadyH.nil
  go_simp
  refine (HF.out _ hHeld).mono ?_
  rintro e u2 ⟨q2, e2, rfl, hr, hn, hb2⟩
  (try go_wp2_with fail)
  refine hK.out _ _ (hHeld.trans (hb2.mono hHeld.size)) (fun hHeld2 => ?_)
  clear hK K hHeld
  have hHeld := hHeld2
  clear hHeld2
  (try simp only [Act.put, List.getElem_toArray, List.getElem_cons_zero, List.getElem_cons_succ, List.setIfInBounds_toArray, List.set_cons_zero, List.set_cons_succ])
  refine wpAnyH_take (i := 8) (v := ?v54) rfl (by kernel_rfl) (by kernel_rfl) (by kernel_rfl) (fun _ _ _ h => h) (Or.inl ⟨by kernel_rfl, ?hy54⟩) (by assumption) ?rest54
  case hy54 => intro w hSw; clear hSw; go_simp; (first | done | with_reducible rfl)
  (try simp only [Act.put, List.getElem_toArray, List.getElem_cons_zero, List.getElem_cons_succ, List.setIfInBounds_toArray, List.set_cons_zero, List.set_cons_succ])
  have hb1 := hb
  refine wpAnyH_done (by kernel_rfl) ?_ _
  have HR := Lib.hid (And.intro hr (And.intro hn (HB.out.trans (hHeld.mono HB.out.size))))
  have HS := Lib.hid (Nat.le_trans HB.out.size hb1.size)
  clear hr hn hb hHeld hb1
  go_wp2_with fail
  go_ret
  exact ⟨_, _, rfl, HR.out.1, fun x hx => Nat.le_trans (by simpa using HS.out) (HR.out.2.1 x hx), HR.out.2.2⟩
theorem exec_by7 (W : World) : Calls Tryz.prog 128 #[.int .i64 7] W fun e w' => e = .returned (.func (.func 157) #[] #[]) ∧ Below W.heap.size W w' := by
  go_enter Tryz.func128, Tryz.ntmps128
  go_wp2_with fail
  go_ret
  exact ⟨rfl, Below.refl _ _⟩
set_option maxRecDepth 100000 in
theorem exec_run7 (G N : Nat) (d : Int) (sp : Option Addr) (sm sc : Nat) (p : Option Addr) (c : Nat) (ys : List Int) (W : World) (hF : ∀ w, Below W.heap.size W w → Calls Tryz.prog 157 #[.agg #[.map (some G)], .agg #[.int .i64 7, .int .i64 N, .slice sp sm sc], .int .i64 d, .slice p N c] w (GivesNw w N ys)) :
    Calls Tryz.prog 90 #[.agg #[.map (some G)], .agg #[.int .i64 7, .int .i64 N, .slice sp sm sc], .int .i64 d, .slice p N c] W (GivesNw W N ys) := by
  obtain ⟨w0, w1, hw0, hw1, hWB, hB, l0, l1⟩ := wb_start W G 7 N (.slice sp sm sc)
  have HB := Lib.hid hB
  have FC := Lib.hid (fun (u : World) (h : Below w1.heap.size w1 u) => (hWB.below h).cells)
  have HF := Lib.hid (fun (w : World) (h : Below w1.heap.size w1 w) => hF w (hB.trans (h.mono hB.size)))
  have BY := Lib.hid exec_by7
  clear hF hWB hB l0 l1
  go_enter Tryz.func90, Tryz.ntmps90
  go_wp2_with fail
  refine wp_region_held_drew (S := (fun w' => Below w1.heap.size w1 w')) (by kernel_rfl) ((Below.refl w1.heap.size w1).drew) (fun hHeld => ?_)
  refine wpAnyH_take (i := 0) (v := ?v55) rfl (by kernel_rfl) (by kernel_rfl) (by kernel_rfl) (fun _ _ _ h => h) (Or.inl ⟨by kernel_rfl, ?hy55⟩) (by assumption) ?rest55
  case hy55 => intro w hSw; clear hSw; go_simp; (first | done | with_reducible rfl)
  (try simp only [Act.put, List.getElem_toArray, List.getElem_cons_zero, List.getElem_cons_succ, List.setIfInBounds_toArray, List.set_cons_zero, List.set_cons_succ])
  refine wpAnyH_take (i := 1) (v := ?v56) rfl (by kernel_rfl) (by kernel_rfl) (by kernel_rfl) (fun _ _ _ h => h) (Or.inl ⟨by kernel_rfl, ?hy56⟩) (by assumption) ?rest56
  case hy56 => intro w hSw; (try dsimp only at hSw); obtain ⟨g0, g1, g2, g3⟩ := FC.out w hSw; go_simp; (first | done | with_reducible rfl)
  (try simp only [Act.put, List.getElem_toArray, List.getElem_cons_zero, List.getElem_cons_succ, List.setIfInBounds_toArray, List.set_cons_zero, List.set_cons_succ])
  refine wpAnyH_take (i := 3) (v := ?v57) rfl (by kernel_rfl) (by kernel_rfl) (by kernel_rfl) (fun _ _ _ h => h) (Or.inl ⟨by kernel_rfl, ?hy57⟩) (by assumption) ?rest57
  case hy57 => intro w hSw; (try dsimp only at hSw); obtain ⟨g0, g1, g2, g3⟩ := FC.out w hSw; go_simp; (first | done | with_reducible rfl)
  (try simp only [Act.put, List.getElem_toArray, List.getElem_cons_zero, List.getElem_cons_succ, List.setIfInBounds_toArray, List.set_cons_zero, List.set_cons_succ])
  refine wpAnyH_take (i := 4) (v := ?v58) rfl (by kernel_rfl) (by kernel_rfl) (by kernel_rfl) (fun _ _ _ h => h) (Or.inl ⟨by kernel_rfl, ?hy58⟩) (by assumption) ?rest58
  case hy58 => intro w hSw; (try dsimp only at hSw); obtain ⟨g0, g1, g2, g3⟩ := FC.out w hSw; go_simp; (first | done | with_reducible rfl)
  (try simp only [Act.put, List.getElem_toArray, List.getElem_cons_zero, List.getElem_cons_succ, List.setIfInBounds_toArray, List.set_cons_zero, List.set_cons_succ])
  refine wpAnyH_take (i := 5) (v := ?v59) rfl (by kernel_rfl) (by kernel_rfl) (by kernel_rfl) (fun _ _ _ h => h) (Or.inl ⟨by kernel_rfl, ?hy59⟩) (by assumption) ?rest59
  case hy59 => intro w hSw; clear hSw; go_simp; (first | done | with_reducible rfl)
  (try simp only [Act.put, List.getElem_toArray, List.getElem_cons_zero, List.getElem_cons_succ, List.setIfInBounds_toArray, List.set_cons_zero, List.set_cons_succ])
  refine wpAnyH_take (i := 6) (v := ?v60) rfl (by kernel_rfl) (by kernel_rfl) (by kernel_rfl) (fun _ _ _ h => h) (Or.inl ⟨by kernel_rfl, ?hy60⟩) (by assumption) ?rest60
  case hy60 => intro w hSw; clear hSw; go_simp; (first | done | with_reducible rfl)
  (try simp only [Act.put, List.getElem_toArray, List.getElem_cons_zero, List.getElem_cons_succ, List.setIfInBounds_toArray, List.set_cons_zero, List.set_cons_succ])
  refine wpAnyH_ready (rs := [2]) (by kernel_rfl) (by simp) ?_
  refine AllReadyH.cons rfl (fun K hK => ?_) AllReadyH.nil
  go_simp
  refine (BY.out _).mono ?_
  rintro e u ⟨rfl, hb⟩
  (try go_wp2_with fail)
  refine hK.out _ _ (hHeld.trans (hb.mono hHeld.size)) (fun hHeld2 => ?_)
  clear hK K hHeld
  have hHeld := hHeld2
  clear hHeld2
  (try simp only [Act.put, List.getElem_toArray, List.getElem_cons_zero, List.getElem_cons_succ, List.setIfInBounds_toArray, List.set_cons_zero, List.set_cons_succ])
  refine wpAnyH_ready (rs := [7]) (by kernel_rfl) (by simp) ?_
  refine AllReadyH.cons rfl (fun K hK => ?_) AllReadyH.nil
  go_simp
  refine (HF.out _ hHeld).mono ?_
  rintro e u2 ⟨q2, e2, rfl, hr, hn, hb2⟩
  (try go_wp2_with fail)
  refine hK.out _ _ (hHeld.trans (hb2.mono hHeld.size)) (fun hHeld2 => ?_)
  clear hK K hHeld
  have hHeld := hHeld2
  clear hHeld2
  (try simp only [Act.put, List.getElem_toArray, List.getElem_cons_zero, List.getElem_cons_succ, List.setIfInBounds_toArray, List.set_cons_zero, List.set_cons_succ])
  refine wpAnyH_take (i := 8) (v := ?v63) rfl (by kernel_rfl) (by kernel_rfl) (by kernel_rfl) (fun _ _ _ h => h) (Or.inl ⟨by kernel_rfl, ?hy63⟩) (by assumption) ?rest63
  case hy63 => intro w hSw; clear hSw; go_simp; (first | done | with_reducible rfl)
  (try simp only [Act.put, List.getElem_toArray, List.getElem_cons_zero, List.getElem_cons_succ, List.setIfInBounds_toArray, List.set_cons_zero, List.set_cons_succ])
  have hb1 := hb
  refine wpAnyH_done (by kernel_rfl) ?_ _
  have HR := Lib.hid (And.intro hr (And.intro hn (HB.out.trans (hHeld.mono HB.out.size))))
  have HS := Lib.hid (Nat.le_trans HB.out.size hb1.size)
  clear hr hn hb hHeld hb1
  go_wp2_with fail
  go_ret
  exact ⟨_, _, rfl, HR.out.1, fun x hx => Nat.le_trans (by simpa using HS.out) (HR.out.2.1 x hx), HR.out.2.2⟩
theorem hasp_pow {n : Int} (h : hasp n = true) : ∃ N a : Nat, n = N ∧ N = 2 ^ a ∧ N ≤ 16777216 ∧ 1 ≤ N := by
  unfold hasp at h
  rw [Bool.and_eq_true] at h
  have h1 := of_decide_eq_true h.1
  obtain ⟨h2, a, ha⟩ := pwb_isp h.2
  exact ⟨n.toNat, a, by omega, ha, by omega, by omega⟩
theorem few_has : ∀ n : Nat, 1 ≤ n → n ≤ 5 → hasb (n : Int) = true := by
  intro n h1 h5
  have : n = 1 ∨ n = 2 ∨ n = 3 ∨ n = 4 ∨ n = 5 := by omega
  rcases this with rfl | rfl | rfl | rfl | rfl <;> decide
/-- A plan's size is one. -/
theorem node_has {k n : Int} {ks : Fo} (h : (Nd.mk k n ks).ok = true) : hasb n = true := by
  unfold Nd.ok nodeB at h
  simp only at h
  split at h
  · rw [Bool.and_eq_true, Bool.and_eq_true] at h; exact h.2
  split at h
  · rw [Bool.and_eq_true, Bool.and_eq_true] at h
    obtain ⟨a, b⟩ := of_decide_eq_true (show decide (1 ≤ n ∧ n ≤ 5) = true from h.2)
    have := few_has n.toNat (by omega) (by omega)
    rwa [Int.toNat_of_nonneg (by omega)] at this
  split at h
  · rw [Bool.and_eq_true, Bool.and_eq_true] at h
    obtain ⟨N, a, rfl, e, l, -⟩ := hasp_pow h.2
    exact hasb_pow e l
  split at h
  · rw [Bool.and_eq_true, Bool.and_eq_true] at h; exact h.1.2
  split at h
  · rw [Bool.and_eq_true, Bool.and_eq_true, Bool.and_eq_true] at h; exact h.1.1.2
  split at h
  · rw [Bool.and_eq_true, Bool.and_eq_true, Bool.and_eq_true, Bool.and_eq_true] at h; exact h.1.1.2
  split at h
  · rw [Bool.and_eq_true, Bool.and_eq_true, Bool.and_eq_true, Bool.and_eq_true] at h; exact h.1.1.2
  · cases h
theorem rdir_part {N a b : Nat} (hN : a * b = N) (hh : hasb N = true) (h1 : 1 ≤ a) {d : Int} (hd : d = 0 ∨ d = 1) : fm (rdir a d) = fm (rdir N d ^ b) := by
  obtain ⟨n1, n2, n3⟩ := hasb_dvd hh
  have hmod : (N : Int) % (a : Int) = 0 := by rw [← hN]; simp
  have hdiv : ((N : Int) / (a : Int)).toNat = b := by rw [← hN, Int.natCast_mul, Int.mul_ediv_cancel_left _ (by omega)]; simp
  have ha := rootParts.has_part hh (d := (a : Int)) (by omega) hmod
  have e := rootParts.rt_pow n1 (show (1 : Int) ≤ a by omega) n3 hmod
  rw [hdiv] at e
  rcases hd with rfl | rfl
  · show fm (rt a) = fm (rt N ^ b)
    rw [e, fm_rt]
  · show fm (finv (rt a)) = fm (finv (rt N) ^ b)
    have i1 := rt_inv ha
    have i2 := rt_inv hh
    refine inv_uniq (c := rt a) (by rw [Int.mul_comm]; exact i1) ?_
    rw [← e, fm_mul_r, Int.mul_comm, ← Int.mul_pow, ← Fld.fm_pow1, i2, Int.one_pow]
    decide
/-- Two kids, as they lie. -/
theorem kids_two {W : World} {lim : Nat} {v : Value} {ks : Fo} (h : Kids W lim v ks) (hl : lim ≤ W.heap.size) (h2 : ks.len = 2) : ∃ kb ko kc v0 v1, v = .slice (some ⟨kb, ko, none⟩) 2 kc ∧ KC W kb ko (ks.k 0) (ks.n 0) v0 (ks.k 1) (ks.n 1) v1 ∧ Kids W lim v0 (ks.kids 0) ∧ Kids W lim v1 (ks.kids 1) := by
  obtain ⟨a, c, rfl, -, -⟩ := h.form
  rw [h2] at h ⊢
  obtain ⟨b, o, v0, rfl, l0, c0, c1, c2, k0⟩ := h.get (i := 0) (by omega)
  obtain ⟨b', o', v1, e, l1, d0, d1, d2, k1⟩ := h.get (i := 1) (by omega)
  cases e
  exact ⟨b, o, c, v0, v1, rfl, ⟨by omega, c0, c1, c2, d0, d1, d2⟩, k0, k1⟩
theorem kids_one {W : World} {lim : Nat} {v : Value} {ks : Fo} (h : Kids W lim v ks) (hl : lim ≤ W.heap.size) (h1 : ks.len = 1) : ∃ kb ko kc v0, v = .slice (some ⟨kb, ko, none⟩) 1 kc ∧ KO W kb ko (ks.k 0) (ks.n 0) v0 ∧ Kids W lim v0 (ks.kids 0) := by
  obtain ⟨a, c, rfl, -, -⟩ := h.form
  rw [h1] at h ⊢
  obtain ⟨b, o, v0, rfl, l0, c0, c1, c2, k0⟩ := h.get (i := 0) (by omega)
  exact ⟨b, o, c, v0, rfl, ⟨by omega, c0, c1, c2⟩, k0⟩
/-- A kid is a plan, too. -/
theorem pre_kid : ∀ (ks : Fo) (i : Nat), i < ks.len → ks.pre.all Nd.ok = true → (Nd.mk (ks.k i) (ks.n i) (ks.kids i)).ok = true ∧ (ks.kids i).pre.all Nd.ok = true
  | .nil, _, h, _ => by simp [Fo.len] at h
  | .cons k n ks r, 0, _, h => by
    rw [Fo.pre, List.all_cons, List.all_append, Bool.and_eq_true, Bool.and_eq_true] at h
    exact ⟨h.1, h.2.1⟩
  | .cons k n ks r, i + 1, hi, h => by
    rw [Fo.pre, List.all_cons, List.all_append, Bool.and_eq_true, Bool.and_eq_true] at h
    exact pre_kid r i (by simpa [Fo.len] using hi) h.2.2
theorem names_kid : ∀ (ks : Fo) (i : Nat) (d : Int), i < ks.len → ∀ x ∈ namesN (ks.k i) (ks.n i) (ks.kids i) d, x ∈ ks.names d
  | .nil, _, _, h => by simp [Fo.len] at h
  | .cons k n ks r, 0, d, _ => fun x hx => by
    rw [Fo.names]
    unfold namesN at hx
    exact List.mem_append.2 (.inl hx)
  | .cons k n ks r, i + 1, d, hi => fun x hx => by
    rw [Fo.names]
    exact List.mem_append.2 (.inr (names_kid r i d (by simpa [Fo.len] using hi) x hx))
set_option maxRecDepth 100000 in
set_option maxHeartbeats 8000000 in
/-- One step: every kid is the transform. -/
theorem run_treeS (F : Nat) (ih : ∀ F', F' < F → ∀ (ks : Fo) (k : Int) (N : Nat) (v : Value) (G lim : Nat) (d : Int) (W : World), ks.cnt ≤ F' → (Nd.mk k N ks).ok = true → ks.pre.all Nd.ok = true → Kids W lim v ks → lim ≤ W.heap.size → (d = 0 ∨ d = 1) → TabsIn W G (namesN k N ks d) → RunK W G k N v d (rdir N d)) :
    ∀ (ks : Fo) (k : Int) (N : Nat) (v : Value) (G lim : Nat) (d : Int) (W : World), ks.cnt ≤ F → (Nd.mk k N ks).ok = true → ks.pre.all Nd.ok = true → Kids W lim v ks → lim ≤ W.heap.size → (d = 0 ∨ d = 1) → TabsIn W G (namesN k N ks d) → RunK W G k N v d (rdir N d) := by
  intro ks k N v G lim d W hc hok hpre hK hl hd hT
  have hh := node_has hok
  obtain ⟨n1, n2, -⟩ := hasb_dvd hh
  have I := inv2_all N d hh hd
  have kid : ∀ i, i < ks.len → ∀ (M : Nat) (v' : Value) (d' : Int), ks.n i = M → (d' = 0 ∨ d' = 1) → under k d = d' → Kids W lim v' (ks.kids i) → RunK W G (ks.k i) M v' d' (rdir M d') := fun i hi M v' d' hM hd' hu hKi => by
    obtain ⟨p1, p2⟩ := pre_kid ks i hi hpre
    have hlt := Fo.cnt_kids ks i hi
    rw [hM] at p1
    refine ih ((ks.kids i).cnt) (by omega) (ks.kids i) (ks.k i) M v' G lim d' W (Nat.le_refl _) p1 p2 hKi hl hd' (hT.mono fun x hx => ?_)
    rw [← hM] at hx
    have := names_kid ks i d' hi x hx
    unfold namesN
    rw [hu]
    exact List.mem_append.2 (.inr this)
  intro w hw p c xs hx
  have hTw := hT.below hw
  have hKw := hK.below hl hw
  have hlw : lim ≤ w.heap.size := Nat.le_trans hl hw.size
  have tn : ∀ x, x ∈ namedL k N d (ks.n 0) → x ∈ namesN k N ks d := fun x hx => List.mem_append.2 (.inl hx)
  have hok' := hok
  unfold Nd.ok nodeB at hok'
  simp only at hok'
  split at hok'
  · -- naive
    rename_i hk; subst hk
    obtain ⟨q, R, e0, ys, ht, hr, hlk⟩ := hTw.look (tn ⟨1, N, 0, d⟩ (by unfold namedL; rw [if_pos (by omega)]; exact List.mem_singleton_self _))
    simp only [Int.toNat_natCast] at ht
    rcases ht with ⟨_, hRN, rfl⟩ | ⟨h, _⟩ | ⟨h, _⟩ | ⟨h, _⟩ <;> first | (exact absurd h (by decide)) | skip
    obtain rfl := hRN.symm
    obtain ⟨sp, sm, sc, rfl, -⟩ := hK.shape
    have E := nvt_end xs hx.len I.rn
    rw [← E]
    exact exec_run1 G N d sp sm sc p c _ w fun w' hw' => exec_naive G N 1 d _ p q c e0 N xs _ w' (hx.below hw') (hr.below hw') (by omega) (hlk.below hw')
  split at hok'
  · -- small
    rename_i hk; subst hk
    rw [Bool.and_eq_true, Bool.and_eq_true] at hok'
    obtain ⟨sp, sm, sc, rfl, -⟩ := hK.shape
    exact exec_run2 G N d sp sm sc p c _ w fun w' hw' => exec_small G N 2 d _ p c xs w' (hx.below hw') hok'.2 hd
  split at hok'
  · -- stock
    rename_i hk; subst hk
    rw [Bool.and_eq_true, Bool.and_eq_true] at hok'
    obtain ⟨N', a, e, ha, hs, -⟩ := hasp_pow hok'.2
    obtain rfl : N = N' := by omega
    obtain ⟨q, R, e0, ys, ht, hr, hlk⟩ := hTw.look (tn ⟨1, N, 0, d⟩ (by unfold namedL; rw [if_pos (by omega)]; exact List.mem_singleton_self _))
    simp only [Int.toNat_natCast] at ht
    rcases ht with ⟨_, hRN, rfl⟩ | ⟨h, _⟩ | ⟨h, _⟩ | ⟨h, _⟩ <;> first | (exact absurd h (by decide)) | skip
    obtain rfl := hRN.symm
    obtain ⟨sp, sm, sc, rfl, -⟩ := hK.shape
    exact exec_run3 G N d sp sm sc p c _ w fun w' hw' => exec_stock G N a 3 d _ p q c e0 xs w' (hx.below hw') ha hs hd (hr.below hw') (hlk.below hw')
  split at hok'
  · -- split
    rename_i hk; subst hk
    rw [Bool.and_eq_true, Bool.and_eq_true] at hok'
    have hm := of_decide_eq_true hok'.1.1
    have hp := hok'.2
    unfold prodb at hp
    rw [Bool.and_eq_true, Bool.and_eq_true, Bool.and_eq_true] at hp
    have a2 := of_decide_eq_true hp.1.1.1
    have b2 := of_decide_eq_true hp.1.1.2
    have hmod := of_decide_eq_true hp.1.2
    have hdiv := of_decide_eq_true hp.2
    obtain ⟨a, ha⟩ : ∃ a : Nat, ks.n 0 = a := ⟨(ks.n 0).toNat, by omega⟩
    obtain ⟨b, hb⟩ : ∃ b : Nat, ks.n 1 = b := ⟨(ks.n 1).toNat, by omega⟩
    rw [ha] at a2 hmod hdiv
    rw [hb] at b2 hdiv
    have hN : a * b = N := by
      have h1 := Int.mul_ediv_add_emod (N : Int) (a : Int)
      rw [hdiv, hmod, Int.add_zero, ← Int.natCast_mul] at h1
      exact Int.ofNat.inj h1
    obtain ⟨kb, ko, kc, v0, v1, rfl, hC, k0, k1⟩ := kids_two hK hl hm
    have hR0 := kid 0 (by omega) a v0 d ha hd rfl k0
    have hR1 := kid 1 (by omega) b v1 d hb hd rfl k1
    rw [ha, hb] at hC
    have hCw := hC.below hw
    obtain ⟨q, R, e0, ys, ht, hr, hlk⟩ := hTw.look (tn ⟨1, N, 0, d⟩ (by unfold namedL; rw [if_pos (by omega)]; exact List.mem_singleton_self _))
    simp only [Int.toNat_natCast] at ht
    rcases ht with ⟨_, hRN, rfl⟩ | ⟨h, _⟩ | ⟨h, _⟩ | ⟨h, _⟩ <;> first | (exact absurd h (by decide)) | skip
    obtain rfl := hRN.symm
    exact exec_run4 G N d _ _ _ p c _ w fun w' hw' => exec_split G a b N hN 4 d (ks.k 0) (ks.k 1) (rdir N d) (rdir a d) (rdir b d) v0 v1 kb ko 2 kc p q c e0 xs w' (hx.below hw') (by omega) (by omega) (by omega) (Nat.le_refl _) (hCw.below hw') (hr.below hw') (hlk.below hw') I.rn
      (rdir_part hN hh (by omega) hd) (rdir_part (by rw [Nat.mul_comm]; exact hN) hh (by omega) hd) (hR0.below (hw.trans (hw'.mono hw.size))) (hR1.below (hw.trans (hw'.mono hw.size)))
  split at hok'
  · -- good
    rename_i hk; subst hk
    rw [Bool.and_eq_true, Bool.and_eq_true, Bool.and_eq_true] at hok'
    have hm := of_decide_eq_true hok'.1.1.1
    have hp := hok'.1.2
    have hg := of_decide_eq_true hok'.2
    unfold prodb at hp
    rw [Bool.and_eq_true, Bool.and_eq_true, Bool.and_eq_true] at hp
    have a2 := of_decide_eq_true hp.1.1.1
    have b2 := of_decide_eq_true hp.1.1.2
    have hmod := of_decide_eq_true hp.1.2
    have hdiv := of_decide_eq_true hp.2
    obtain ⟨a, ha⟩ : ∃ a : Nat, ks.n 0 = a := ⟨(ks.n 0).toNat, by omega⟩
    obtain ⟨b, hb⟩ : ∃ b : Nat, ks.n 1 = b := ⟨(ks.n 1).toNat, by omega⟩
    rw [ha] at a2 hmod hdiv hg
    rw [hb] at b2 hdiv hg
    have hN : a * b = N := by
      have h1 := Int.mul_ediv_add_emod (N : Int) (a : Int)
      rw [hdiv, hmod, Int.add_zero, ← Int.natCast_mul] at h1
      exact Int.ofNat.inj h1
    have hgc : Nat.gcd a b = 1 := by
      unfold gcdz at hg
      rw [if_neg (by omega)] at hg
      exact Int.ofNat.inj hg
    obtain ⟨kb, ko, kc, v0, v1, rfl, hC, k0, k1⟩ := kids_two hK hl hm
    have hR0 := kid 0 (by omega) a v0 d ha hd rfl k0
    have hR1 := kid 1 (by omega) b v1 d hb hd rfl k1
    rw [ha, hb] at hC
    have hCw := hC.below hw
    exact exec_run5 G N d _ _ _ p c _ w fun w' hw' => exec_good G a b N hN 5 d (ks.k 0) (ks.k 1) (rdir N d) (rdir a d) (rdir b d) v0 v1 kb ko 2 kc p c xs w' (hx.below hw') (by omega) (by omega) (by omega) (Nat.le_refl _) (hCw.below hw') hgc I.rn
      (rdir_part hN hh (by omega) hd) (rdir_part (by rw [Nat.mul_comm]; exact hN) hh (by omega) hd) (hR0.below (hw.trans (hw'.mono hw.size))) (hR1.below (hw.trans (hw'.mono hw.size)))
  split at hok'
  · -- rader
    rename_i hk; subst hk
    rw [Bool.and_eq_true, Bool.and_eq_true, Bool.and_eq_true, Bool.and_eq_true] at hok'
    have hm := of_decide_eq_true hok'.1.1.1.1
    have h3 := of_decide_eq_true hok'.1.1.1.2
    obtain ⟨q', e, hq, -⟩ := prb_yes hok'.1.2
    obtain rfl : N = q' := by omega
    have ha := of_decide_eq_true hok'.2
    obtain ⟨hr5, a, hp2⟩ := rader_two hh hq (by omega)
    obtain ⟨n, hn⟩ : ∃ n, N = n + 1 := ⟨N - 1, by omega⟩
    have hn1 : N - 1 = n := by omega
    rw [hn1] at hp2
    have hhn : hasb n = true := hasb_pow hp2 (by omega)
    have I1 : Inv2 (rdir n 0) (rdir n 1) n := by have := inv2_all n 0 hhn (.inl rfl); rwa [show (1 - 0 : Int) = 1 from rfl] at this
    obtain ⟨kb, ko, kc, v0, rfl, hC, k0⟩ := kids_one hK hl hm
    have ha' : ks.n 0 = (n : Int) := by omega
    have hR0 := kid 0 (by omega) n v0 0 ha' (.inl rfl) (by unfold under; rw [if_pos (.inl rfl)]) k0
    rw [ha'] at hC
    have hCw := hC.below hw
    obtain ⟨q, R, e0, ys, ht, hr, hlk⟩ := hTw.look (tn ⟨3, N, 0, d⟩ (by unfold namedL; rw [if_neg (by omega), if_pos rfl]; exact List.mem_singleton_self _))
    simp only [Int.toNat_natCast] at ht
    rcases ht with ⟨h, _⟩ | ⟨h, _⟩ | ⟨_, hRN, g, hg, rfl⟩ | ⟨h, _⟩ <;> first | (exact absurd h (by decide)) | skip
    obtain rfl := hRN.symm
    rw [hn1] at hr hlk
    exact exec_run6 G N d _ _ _ p c _ w fun w' hw' => exec_rader G N n g hq hn 6 d (ks.k 0) (rdir n 1) v0 kb ko 1 kc p q c e0 xs w' (hx.below hw') (by omega) (Nat.le_refl _) (hCw.below hw') I1 hg (hr.below hw') (hlk.below hw') I.rn (hR0.below (hw.trans (hw'.mono hw.size)))
  split at hok'
  · -- blue
    rename_i hk; subst hk
    rw [Bool.and_eq_true, Bool.and_eq_true, Bool.and_eq_true, Bool.and_eq_true] at hok'
    have hm := of_decide_eq_true hok'.1.1.1.1
    have h2 := of_decide_eq_true hok'.1.1.1.2
    have hle := of_decide_eq_true hok'.2
    obtain ⟨M, a, hM, hp2, hs, -⟩ := hasp_pow hok'.1.2
    rw [hM] at hle
    have hhM : hasb M = true := hasb_pow hp2 hs
    have I1 : Inv2 (rdir M 0) (rdir M 1) M := by have := inv2_all M 0 hhM (.inl rfl); rwa [show (1 - 0 : Int) = 1 from rfl] at this
    obtain ⟨kb, ko, kc, v0, rfl, hC, k0⟩ := kids_one hK hl hm
    have hR0 := kid 0 (by omega) M v0 0 hM (.inl rfl) (by unfold under; rw [if_pos (.inr rfl)]) k0
    rw [hM] at hC
    have hCw := hC.below hw
    have hnm : namedL 7 N d (ks.n 0) = [⟨2, N, 0, d⟩, ⟨4, N, M, d⟩] := by unfold namedL; rw [if_neg (by omega), if_neg (by omega), if_pos rfl, hM]
    obtain ⟨q1, R1, e1, ys1, ht1, hr1, hlk1⟩ := hTw.look (tn ⟨2, N, 0, d⟩ (by rw [hnm]; simp))
    obtain ⟨q2, R2, e2, ys2, ht2, hr2, hlk2⟩ := hTw.look (tn ⟨4, N, M, d⟩ (by rw [hnm]; simp))
    simp only [Int.toNat_natCast] at ht1 ht2
    rcases ht1 with ⟨h, _⟩ | ⟨_, hRN, rfl⟩ | ⟨h, _⟩ | ⟨h, _⟩ <;> first | (exact absurd h (by decide)) | skip
    obtain rfl := hRN.symm
    rcases ht2 with ⟨h, _⟩ | ⟨h, _⟩ | ⟨h, _⟩ | ⟨_, hRM, rfl⟩ <;> first | (exact absurd h (by decide)) | skip
    obtain rfl := hRM.symm
    exact exec_run7 G N d _ _ _ p c _ w fun w' hw' => exec_blue G N M 7 d (ks.k 0) (rdir N (1 - d)) (rdir N d) (rdir M 1) v0 kb ko 1 kc p q1 q2 c e1 e2 xs w' (hx.below hw') (by omega) (by omega) hs (Nat.le_refl _) (hCw.below hw') I1
      I.rn I.sn (fun k => I.pow k) (hr1.below hw') (hlk1.below hw') (hr2.below hw') (hlk2.below hw') (hR0.below (hw.trans (hw'.mono hw.size)))
  · cases hok'
set_option maxRecDepth 100000 in
set_option maxHeartbeats 4000000 in
/-- Any plan is the transform. -/
theorem run_tree (F : Nat) : ∀ (ks : Fo) (k : Int) (N : Nat) (v : Value) (G lim : Nat) (d : Int) (W : World), ks.cnt ≤ F → (Nd.mk k N ks).ok = true → ks.pre.all Nd.ok = true → Kids W lim v ks → lim ≤ W.heap.size → (d = 0 ∨ d = 1) → TabsIn W G (namesN k N ks d) → RunK W G k N v d (rdir N d) := by
  induction F using Nat.strongRecOn with
  | _ F ih => exact run_treeS F ih
end Go.Proofs.YtbhnlfgccldmaaaGreat
/- What a plan names are names of tables. -/
namespace Go.Proofs.YtbhnlfgccldmaaaGreat
open Go.ChangeShapes Go.WideShapes Go.ChangeAt Go.RowKit
set_option linter.unusedVariables false
theorem hasb_powN : ∀ a : Nat, a < 25 → hasb ((2 ^ a : Nat) : Int) = true := by decide +kernel
theorem pow_leN {a : Nat} (h : 2 ^ a ≤ 16777216) : a < 25 := by
  refine Nat.lt_of_not_le fun hn => ?_
  have h1 : 2 ^ 25 ≤ 2 ^ a := Nat.pow_le_pow_right (by omega) hn
  have h2 : (2 : Nat) ^ 25 = 33554432 := by decide
  omega
theorem hasp_hasb {n : Int} (h : hasp n = true) : hasb n = true := by
  have h0 := h
  unfold hasp at h
  rw [Bool.and_eq_true, decide_eq_true_iff] at h
  obtain ⟨h1, h2⟩ := h
  obtain ⟨h3, h4⟩ := pwb_isp h2
  obtain ⟨a, ha⟩ := h4
  obtain ⟨m, rfl⟩ : ∃ m : Nat, n = m := ⟨n.toNat, by omega⟩
  have e : m = 2 ^ a := by simpa using ha
  subst e
  have h5 : ((2 ^ a : Nat) : Int) ≤ ((16777216 : Nat) : Int) := h1
  exact hasb_powN a (pow_leN (Int.ofNat_le.1 h5))
theorem node_names {k n dir : Int} {m : Nat} {a b : Int} (h : nodeB k n m a b = true) (hd : dir = 0 ∨ dir = 1) : ∀ x ∈ namedL k n dir a, rightb x.k x.n x.m x.d = true := by
  intro x hx
  unfold namedL at hx
  unfold nodeB at h
  by_cases h1 : k = 1 ∨ k = 3 ∨ k = 4
  · rw [if_pos h1] at hx
    simp only [List.mem_singleton] at hx
    subst hx
    have hh : hasb n = true := by
      rcases h1 with rfl | rfl | rfl
      · rw [if_pos rfl] at h; simp only [Bool.and_eq_true] at h; exact h.2
      · rw [if_neg (by omega), if_neg (by omega), if_pos rfl] at h; simp only [Bool.and_eq_true] at h; exact hasp_hasb h.2
      · rw [if_neg (by omega), if_neg (by omega), if_neg (by omega), if_pos rfl] at h; simp only [Bool.and_eq_true] at h; exact h.1.2
    show rightb 1 n 0 dir = true
    rw [rightb_12 hh hd (.inl rfl)]; rfl
  · rw [if_neg h1] at hx
    by_cases h2 : k = 6
    · subst h2
      rw [if_pos rfl] at hx
      simp only [List.mem_singleton] at hx
      subst hx
      rw [if_neg (by omega), if_neg (by omega), if_neg (by omega), if_neg (by omega), if_neg (by omega), if_pos rfl] at h
      simp only [Bool.and_eq_true, decide_eq_true_eq] at h
      show rightb 3 n 0 dir = true
      rw [rightb_3 h.1.1.2 hd, h.1.2, decide_eq_true ⟨rfl, h.1.1.1.2⟩]; rfl
    · rw [if_neg h2] at hx
      by_cases h3 : k = 7
      · subst h3
        rw [if_pos rfl] at hx
        rw [if_neg (by omega), if_neg (by omega), if_neg (by omega), if_neg (by omega), if_neg (by omega), if_neg (by omega), if_pos rfl] at h
        simp only [Bool.and_eq_true, decide_eq_true_eq] at h
        simp only [List.mem_cons, List.not_mem_nil, or_false] at hx
        rcases hx with rfl | rfl
        · show rightb 2 n 0 dir = true
          rw [rightb_12 h.1.1.2 hd (.inr rfl)]; rfl
        · show rightb 4 n a dir = true
          rw [rightb_4 h.1.1.2 hd, h.1.2, decide_eq_true h.1.1.1.2, decide_eq_true h.2]; rfl
      · rw [if_neg h3] at hx; cases hx
theorem under_dir {k dir : Int} (hd : dir = 0 ∨ dir = 1) : under k dir = 0 ∨ under k dir = 1 := by unfold under; split <;> omega
theorem names_right : ∀ (f : Fo) (dir : Int), f.pre.all Nd.ok = true → (dir = 0 ∨ dir = 1) → ∀ x ∈ f.names dir, rightb x.k x.n x.m x.d = true
  | .nil, _, _, _, x, hx => by simp [Fo.names] at hx
  | .cons k n ks r, dir, h, hd, x, hx => by
    rw [Fo.pre, List.all_cons, List.all_append] at h
    simp only [Bool.and_eq_true] at h
    rw [Fo.names] at hx
    simp only [List.mem_append] at hx
    rcases hx with (hx | hx) | hx
    · exact node_names h.1 hd x hx
    · exact names_right ks _ h.2.1 (under_dir hd) x hx
    · exact names_right r dir h.2.2 hd x hx
theorem namesN_right {k n dir : Int} {ks : Fo} (h : ckd dir (chkd k n ks) = 0) : ∀ x ∈ namesN k n ks dir, rightb x.k x.n x.m x.d = true := by
  obtain ⟨hd, h0⟩ := ckd_dir h
  obtain ⟨h1, h2, _, _⟩ := chk_zero h0
  intro x hx
  rw [namesN, List.mem_append] at hx
  rcases hx with hx | hx
  · exact node_names h1 hd x hx
  · exact names_right ks _ h2 (under_dir hd) x hx
end Go.Proofs.YtbhnlfgccldmaaaGreat
/- Package exec: the tables that are made, and rest. -/
namespace Go.Proofs.YtbhnlfgccldmaaaGreat
open Go.ChangeShapes Go.WideShapes Go.ChangeAt Go.RowKit
set_option linter.unusedVariables false
open Go.WideMaps Go.MapKept Go.WideElems Go.ChangeMaps
set_option linter.unusedSimpArgs false
theorem exec_rest (w : World) : Calls Tryz.prog 89 #[.nilFunc] w fun e w' => e = .returned (.tuple #[]) ∧ w = w' := by
  have qf : ∀ w, (binOp .neq 1 .nilFunc .nilFunc).run Tryz.prog w = .ok (.bool false) w := fun w => by kernel_rfl
  go_enter Tryz.func89, Tryz.ntmps89
  go_wp2_with fail
  go_end0
  exact ⟨rfl, rfl⟩
/-- A table that is made: its row in memory. -/
def TabRow (w : World) (x : Nam) (v : Value) : Prop := ∃ (p : Option Addr) (R c : Nat) (ys : List Int), v = .slice p R c ∧ TabOf x.k x.n.toNat x.m.toNat x.d R ys ∧ Row w p R ys ∧ roomi x.k x.n x.m = R
theorem TabRow.below {w w' : World} {x : Nam} {v : Value} (h : TabRow w x v) (hb : Below w.heap.size w w') : TabRow w' x v := by
  obtain ⟨p, R, c, ys, h1, h2, h3, h4⟩ := h
  exact ⟨p, R, c, ys, h1, h2, h3.below hb, h4⟩
theorem made_row (x : Nam) (hx : rightb x.k x.n x.m x.d = true) (W : World) :
    Calls Tryz.prog 53 #[x.val] W fun e w' => ∃ v, e = .returned (.tuple #[v, .int .i64 0]) ∧ TabRow w' x v ∧ Below W.heap.size W w' := by
  obtain ⟨k, n, m, d⟩ := x
  replace hx : rightb k n m d = true := hx
  obtain ⟨N, rfl, hh, hd, h1, hnm⟩ := nm_of hx
  refine (table_make k m d N W hx hh hd hnm).mono ?_
  rintro e w' ⟨R, ys, ht, p, c, rfl, hr, hb⟩
  have hm : m = ((m.toNat : Nat) : Int) := by
    rcases hnm with ⟨_, hm⟩ | ⟨_, hm⟩ | ⟨_, hm, _⟩ | ⟨_, M, a, hm, _⟩ <;> omega
  refine ⟨_, rfl, ⟨p, R, c, ys, rfl, ?_, hr, ?_⟩, hb⟩
  · simpa using ht
  · exact nm_room hnm h1 hm ht
set_option maxRecDepth 100000 in
theorem exec_look (x : Nam) (hx : rightb x.k x.n x.m x.d = true) (W : World) :
    Calls Tryz.prog 52 #[x.val] W fun e w' => ∃ v, e = .returned v ∧ TabRow w' x v ∧ Below W.heap.size W w' := by
  obtain ⟨w0, hw0⟩ : ∃ w0, W.alloc (.cells #[.int .i64 x.k, .int .i64 x.n, .int .i64 x.m, .int .i64 x.d] 82) = w0 := ⟨_, rfl⟩
  have hB : Below W.heap.size W w0 := hw0 ▸ (Below.refl _ _).alloc (Nat.le_refl _) _
  have r0 := heap_alloc_new W (.cells #[.int .i64 x.k, .int .i64 x.n, .int .i64 x.m, .int .i64 x.d] 82)
  rw [hw0] at r0
  have c0 : w0.cell? ⟨W.heap.size, 0, none⟩ = some (.int .i64 x.k) := by rw [cell_of_row _ _ _ _ _ _ r0]; rfl
  have c1 : w0.cell? ⟨W.heap.size, 1, none⟩ = some (.int .i64 x.n) := by rw [cell_of_row _ _ _ _ _ _ r0]; rfl
  have c2 : w0.cell? ⟨W.heap.size, 2, none⟩ = some (.int .i64 x.m) := by rw [cell_of_row _ _ _ _ _ _ r0]; rfl
  have c3 : w0.cell? ⟨W.heap.size, 3, none⟩ = some (.int .i64 x.d) := by rw [cell_of_row _ _ _ _ _ _ r0]; rfl
  have HB := Lib.hid hB
  have MK := Lib.hid (show Calls Tryz.prog 53 #[.agg #[.int .i64 x.k, .int .i64 x.n, .int .i64 x.m, .int .i64 x.d]] w0 fun e w' => ∃ v, e = .returned (.tuple #[v, .int .i64 0]) ∧ TabRow w' x v ∧ Below w0.heap.size w0 w' from made_row x hx w0)
  unfold Nam.val
  clear hB r0 hx
  go_enter Tryz.func52, Tryz.ntmps52
  go_wp2_with fail
  refine MK.out.mono ?_
  rintro e w1 ⟨v, rfl, ht, hb⟩
  have HT := Lib.hid (And.intro ht (HB.out.trans (hb.mono HB.out.size)))
  clear ht hb c0 c1 c2 c3 hw0
  obtain ⟨p, R, c, ys, rfl, -⟩ := HT.out.1
  go_wp2_with fail
  go_ret
  exact ⟨_, rfl, HT.out.1, HT.out.2⟩
theorem zero_u64s (u : World) : (zeroValue 25).run Tryz.prog u = .ok (.slice none 0 0) u := by kernel_rfl
/-- The tables of the first names, as they are put into the map. -/
structure Put (w : World) (G : Nat) (L : List Nam) (i : Nat) (l : List (Value × Value)) : Prop where
  g : w.heap[G]? = some (gMap l)
  k : GKeys Tryz.prog 82 l
  n : l.length = i
  a : ∀ (j : Nat) x, j < i → L[j]? = some x → ∃ v, l[j]? = some (x.val, v) ∧ TabRow w x v
theorem Put.below {w w' : World} {G i : Nat} {L : List Nam} {l : List (Value × Value)} (h : Put w G L i l) (hb : Below w.heap.size w w') : Put w' G L i l :=
  ⟨(hb.block G (g_lt h.g)).trans h.g, h.k, h.n, fun j x hj hx => by
    obtain ⟨v, h1, h2⟩ := h.a j x hj hx
    exact ⟨v, h1, h2.below hb⟩⟩
theorem row_setBlock {w : World} {G : Nat} {o : Obj} {p : Option Addr} {n : Nat} {xs : List Int} (h : Row w p n xs) (hG : ∀ T C, w.heap[G]? ≠ some (.cells C T (0, 0)) → True) (hm : ∃ l, w.heap[G]? = some (gMap l)) : Row (setBlock w G o) p n xs := by
  obtain ⟨h1, h2, h3, h4⟩ := h
  refine ⟨h1, ?_, h3, h4⟩
  rcases h2 with h2 | ⟨b, off, rfl, hb, hc⟩
  · exact .inl h2
  · refine .inr ⟨b, off, rfl, by rw [gs_size]; exact hb, fun i hi => ?_⟩
    have hne : b ≠ G := fun e => by
      subst e
      obtain ⟨l, hl⟩ := hm
      have := hc i hi
      unfold World.cell? at this
      rw [hl] at this
      simp [gMap] at this
    have := hc i hi
    unfold World.cell? at this ⊢
    rw [gs_heap hne]
    exact this
theorem Put.put {w : World} {G i : Nat} {L : List Nam} {l : List (Value × Value)} (h : Put w G L i l) {x : Nam} {v : Value} (hx : L[i]? = some x) (hd : L.Nodup) (hwf : x.wf) (ht : TabRow w x v) :
    (∀ (u : World), u = w → (Instr.mapUpdate 114 (.map (some G)) x.val v).run Tryz.prog u = .ok () (setBlock u G (gMap (l ++ [(x.val, v)])))) ∧ Put (setBlock w G (gMap (l ++ [(x.val, v)]))) G L (i + 1) (l ++ [(x.val, v)]) := by
  obtain ⟨kl, hkl⟩ := name_key x hwf
  have hnew : ∀ p ∈ l, p.1 ≠ x.val := fun p hp e => by
    obtain ⟨j, hj⟩ := List.mem_iff_getElem?.1 hp
    have hji : j < i := by have := (List.getElem?_eq_some_iff.1 hj).1; have := h.n; omega
    obtain ⟨y, hy⟩ : ∃ y, L[j]? = some y := ⟨_, List.getElem?_eq_getElem (by have := (List.getElem?_eq_some_iff.1 hx).1; omega)⟩
    obtain ⟨v', h1, -⟩ := h.a j y hji hy
    rw [hj] at h1
    have e2 : p.1 = y.val := by rw [Option.some.inj h1]
    have e3 : y = x := Nam.val_inj (e2.symm.trans e)
    subst e3
    obtain ⟨a1, a2⟩ := List.getElem?_eq_some_iff.1 hx
    obtain ⟨b1, b2⟩ := List.getElem?_eq_some_iff.1 hy
    have := (List.getElem_inj hd).1 (a2.trans b2.symm)
    omega
  have tr : ∀ y v', TabRow w y v' → TabRow (setBlock w G (gMap (l ++ [(x.val, v)]))) y v' := fun y v' ⟨p, R, c, ys, h1, h2, h3, h4⟩ => ⟨p, R, c, ys, h1, h2, row_setBlock h3 (fun _ _ _ => trivial) ⟨_, h.g⟩, h4⟩
  refine ⟨fun u hu => ?_, ⟨gs_at (g_lt h.g), h.k.snoc hkl hnew, by simp [h.n], fun j y hj hy => ?_⟩⟩
  · subst hu
    exact (g_gone (Go.Maps.Keyed.of_law name_law) Tryz.underlying114 h.k zero_u64s hkl hnew u G h.g).2.2.2 v
  · by_cases hji : j < i
    · obtain ⟨v', h1, h2⟩ := h.a j y hji hy
      exact ⟨v', by rw [List.getElem?_append_left (by rw [h.n]; exact hji)]; exact h1, tr y v' h2⟩
    · obtain rfl : j = i := by omega
      rw [hx] at hy
      obtain rfl := Option.some.inj hy
      exact ⟨v, by rw [List.getElem?_append_right (by rw [h.n]; exact Nat.le_refl _), h.n]; simp, tr x v ht⟩
theorem Put.tabs {w : World} {G i : Nat} {L : List Nam} {l : List (Value × Value)} (h : Put w G L i l) (hi : L.length ≤ i) : TabsIn w G L := by
  refine ⟨l, h.g, h.k, fun x hx => ?_⟩
  obtain ⟨j, hj⟩ := List.mem_iff_getElem?.1 hx
  obtain ⟨v, h1, p, R, c, ys, rfl, h2, h3, -⟩ := h.a j x (by have := (List.getElem?_eq_some_iff.1 hj).1; omega) hj
  exact ⟨j, p, R, c, ys, h1, h2, h3⟩
end Go.Proofs.YtbhnlfgccldmaaaGreat
/- Package exec: Run with tables that are made; Do. By program (genexq.py). -/
namespace Go.Proofs.YtbhnlfgccldmaaaGreat
open Go.ChangeShapes Go.WideShapes Go.ChangeAt Go.RowKit
set_option linter.unusedVariables false
open Go.WideMaps Go.MapKept Go.WideElems Go.ChangeMaps
set_option linter.unusedSimpArgs false
set_option maxRecDepth 100000 in
set_option maxHeartbeats 16000000 in
theorem exec_run_ok (ks : Fo) (v : Value) (k dir : Int) (N lim : Nat) (p : Option Addr) (c : Nat) (xs : List Int) (W : World) (hN : ks.cnt ≤ 1048576) (hK : Kids W lim v ks) (hl : lim ≤ W.heap.size) (wk : -9223372036854775808 ≤ k ∧ k ≤ 9223372036854775807) (wf : ks.wf) (hx : Row W p N xs) (hc : ckd dir (chkd k N ks) = 0) :
    Calls Tryz.prog 51 #[.agg #[.int .i64 k, .int .i64 N, v], .int .i64 dir, .slice p N c, .func (.func 52) #[] #[], .nilFunc] W (GivesOk W N (horl (rdir N dir) xs N)) := by
  obtain ⟨hd, h0⟩ := ckd_dir hc
  obtain ⟨hok, hpre, -, -⟩ := chk_zero h0
  have hh := node_has hok
  obtain ⟨n1, n2, -⟩ := hasb_dvd hh
  have wn : -9223372036854775808 ≤ (N : Int) ∧ (N : Int) ≤ 9223372036854775807 := by omega
  have NT := need_tables ks v k N dir lim W hN hK hl wn wf
  obtain ⟨L, hL⟩ : ∃ L, tabsL k N ks dir = L := ⟨_, rfl⟩
  have hLo : L = once (namesN k N ks dir) := by rw [← hL]; unfold tabsL; rw [if_pos hc]
  have LM := Lib.hid (fun x => show x ∈ L ↔ x ∈ namesN k N ks dir from hLo ▸ once_mem _ x)
  have LD := Lib.hid (show L.Nodup from hLo ▸ once_nodup _)
  have LRt := Lib.hid (fun x (hx : x ∈ L) => namesN_right hc x ((LM.out x).1 hx))
  have LW := Lib.hid (fun x (hx : x ∈ L) => namesN_wf wn (show -9223372036854775808 ≤ dir ∧ dir ≤ 9223372036854775807 from by rcases hd with rfl | rfl <;> omega) wf x ((LM.out x).1 hx))
  have hlen : L.length ≤ 4194304 := by
    rw [hLo]
    have h1 := onceA_len [] (namesN k N ks dir)
    have h2 : (namesN k N ks dir).length ≤ 2 + 2 * ks.cnt := by
      unfold namesN
      rw [List.length_append]
      have := named_len k N dir (ks.n 0)
      have := names_len ks (under k dir)
      omega
    unfold once
    simp only [List.length_nil, Nat.zero_add] at h1
    omega
  have HLEN := Lib.hid hlen
  obtain ⟨sp, sm, sc, rfl, -⟩ := hK.shape
  obtain ⟨w0, hw0, c0, c1, c2, hB0, hsz⟩ := box3 W k N (.slice sp sm sc) 24
  replace hw0 := hw0.symm
  have NT := Lib.hid (need_tables ks (.slice sp sm sc) k N dir lim w0 hN (hK.below hl hB0) (Nat.le_trans hl hB0.size) wn wf)
  rw [hL, hc] at NT
  have HB0 := Lib.hid hB0
  have HK := Lib.hid (fun (w : World) (h : Below W.heap.size W w) => hK.below hl h)
  have HX := Lib.hid (fun (w : World) (h : Below W.heap.size W w) => hx.below h)
  have RT := Lib.hid (fun (w : World) (h : Below W.heap.size W w) (G : Nat) (hT : TabsIn w G L) => run_tree ks.cnt ks k N (.slice sp sm sc) G lim dir w (Nat.le_refl _) hok hpre (hK.below hl h) (Nat.le_trans hl h.size) hd (hT.mono fun x hx => (LM.out x).2 hx))
  have HN := Lib.hid n2
  have NR := Lib.hid (fun (x : Nam) (hx : x ∈ L) (w : World) => need_room x.k x.n x.m x.d w (LW.out x hx).2.1 (LW.out x hx).2.2.1.2)
  rw [← horl_red]
  have hnn : ((N : Int) != (N : Int)) = false := by simp
  clear hN hK hl wk wf hx hc hd h0 hok hpre hh n1 n2 wn hL hLo hlen
  have hBx := hB0.block
  clear hBx
  have BX := Lib.hid (fun (w : World) (h : Below w0.heap.size w0 w) => (show w.cell? ⟨W.heap.size, 0, none⟩ = some (.int .i64 k) ∧ w.cell? ⟨W.heap.size, 1, none⟩ = some (.int .i64 N) ∧ w.cell? ⟨W.heap.size, 2, none⟩ = some (.slice sp sm sc) from
    ⟨(h.cell (p := ⟨W.heap.size, 0, none⟩) (by show W.heap.size < _; omega)).trans c0, (h.cell (p := ⟨W.heap.size, 1, none⟩) (by show W.heap.size < _; omega)).trans c1, (h.cell (p := ⟨W.heap.size, 2, none⟩) (by show W.heap.size < _; omega)).trans c2⟩))
  obtain ⟨A, hA⟩ : ∃ A, W.heap.size = A := ⟨_, rfl⟩
  rw [hA] at c0 c1 c2 BX
  have HA := Lib.hid hA
  have q0 : ∀ w, (binOp .eql 111 (.func (.func 52) #[] #[]) .nilFunc).run Tryz.prog w = .ok (.bool false) w := fun w => by kernel_rfl
  have hmm := @run_makeMap Tryz.prog
  go_enter Tryz.func51, Tryz.ntmps51
  go_wp2_with fail
  refine NT.out.mono ?_
  rintro e w2 ⟨la, lc, rfl, lr, -, -, b2⟩
  have HLR := Lib.hid lr
  have HB2 := Lib.hid b2
  obtain ⟨c0, c1, c2⟩ := BX.out w2 b2
  clear lr b2 NT
  obtain ⟨G, hG⟩ : ∃ G, w2.heap.size = G := ⟨_, rfl⟩
  obtain ⟨w3, hw3⟩ : ∃ w3, (w2.alloc (.map #[] 0)).alloc (.cells #[.map (some G)] 116) = w3 := ⟨_, rfl⟩
  have H3 := Lib.hid (show Put w3 G L 0 [] ∧ w3.heap[G + 1]? = some (.cells #[.map (some G)] 116 (0, 0)) ∧ Below G w2 w3 ∧ w0.heap.size ≤ G from by
    subst hG
    have b1 : Below w2.heap.size w2 (w2.alloc (.map #[] 0)) := (Below.refl _ _).alloc (Nat.le_refl _) _
    have b3 : Below (w2.alloc (.map #[] 0)).heap.size (w2.alloc (.map #[] 0)) w3 := hw3 ▸ (Below.refl _ _).alloc (Nat.le_refl _) _
    have r1 := heap_alloc_new w2 (.map #[] 0)
    have r2 := heap_alloc_new (w2.alloc (.map #[] 0)) (.cells #[.map (some w2.heap.size)] 116)
    rw [hw3, World.size_alloc] at r2
    exact ⟨⟨(b3.block _ (g_lt r1)).trans r1, GKeys.nil _ _, rfl, fun j x hj => absurd hj (Nat.not_lt_zero _)⟩, r2, b1.trans (b3.mono (by simp)), HB2.out.size⟩)
  have HGW := Lib.hid hG
  have HW3 := Lib.hid hw3
  clear hw3
  go_wp2_with fail
  (try rw [hG]); (try rw [HW3.out])
  clear c0 c1 c2 hw0
  go_loopw [16, 17, 43] (fun _ _ x wr => ∃ (i : Nat) (l : List (Value × Value)), i ≤ L.length ∧ x = .int .i64 i ∧ Hid (Put wr G L i l) ∧ Hid (wr.heap[G + 1]? = some (.cells #[.map (some G)] 116 (0, 0))) ∧ Hid (Below G w2 wr)) (fun _ _ x _ => L.length - (intOf x).toNat)
  case atStart => exact ⟨0, [], Nat.zero_le _, rfl, Lib.hid H3.out.1, Lib.hid H3.out.2.1, Lib.hid H3.out.2.2.1⟩
  case round =>
    obtain ⟨i, l, hi, rfl, HP, HWk, HBL⟩ := hrel
    obtain ⟨wu, rfl⟩ : ∃ wu, wu = wr := ⟨_, rfl⟩
    by_cases hil : i < L.length
    · have hii : (i : Int) < (L.length : Int) := by omega
      have WI := Lib.hid (show wrap64 ((i : Int) + 1) = ((i + 1 : Nat) : Int) by have := HLEN.out; simp only [wrap64]; omega)
      obtain ⟨x, hx⟩ : ∃ x, L[i]? = some x := ⟨_, List.getElem?_eq_getElem hil⟩
      have hxL : x ∈ L := List.mem_of_getElem? hx
      obtain ⟨b, o, rfl, hb, k0, k1, k2, k3⟩ := (HLR.out.carry (HGW.out ▸ HBL.out)).get hil
      have hxe : L[i] = x := by rw [List.getElem?_eq_getElem hil] at hx; exact Option.some.inj hx
      rw [hxe] at k0 k1 k2 k3
      obtain ⟨wa, hwa⟩ : ∃ wa, wu.alloc (.cells #[.int .i64 x.k, .int .i64 x.n, .int .i64 x.m, .int .i64 x.d] 82) = wa := ⟨_, rfl⟩
      have ba : Below wu.heap.size wu wa := hwa ▸ (Below.refl _ _).alloc (Nat.le_refl _) _
      have ra := heap_alloc_new wu (.cells #[.int .i64 x.k, .int .i64 x.n, .int .i64 x.m, .int .i64 x.d] 82)
      rw [hwa] at ra
      have HBX := Lib.hid (fun (w : World) (h : Below wa.heap.size wa w) => (show w.cell? ⟨wu.heap.size, 0, none⟩ = some (.int .i64 x.k) ∧ w.cell? ⟨wu.heap.size, 1, none⟩ = some (.int .i64 x.n) ∧ w.cell? ⟨wu.heap.size, 2, none⟩ = some (.int .i64 x.m) ∧ w.cell? ⟨wu.heap.size, 3, none⟩ = some (.int .i64 x.d) from by
        have r := (h.block _ (g_lt ra)).trans ra
        exact ⟨by rw [cell_of_row _ _ _ _ _ _ r]; rfl, by rw [cell_of_row _ _ _ _ _ _ r]; rfl, by rw [cell_of_row _ _ _ _ _ _ r]; rfl, by rw [cell_of_row _ _ _ _ _ _ r]; rfl⟩))
      obtain ⟨d0, d1, d2, d3⟩ := HBX.out wa (Below.refl _ _)
      have HBa := Lib.hid ba
      have LK := Lib.hid (show Calls Tryz.prog 52 #[.agg #[.int .i64 x.k, .int .i64 x.n, .int .i64 x.m, .int .i64 x.d]] wa fun e w' => ∃ v, e = .returned v ∧ TabRow w' x v ∧ Below wa.heap.size wa w' from exec_look x (LRt.out x hxL) wa)
      have NRx := Lib.hid (fun (w : World) => (show Calls Tryz.prog 87 #[.agg #[.int .i64 x.k, .int .i64 x.n, .int .i64 x.m, .int .i64 x.d]] w fun e w' => e = .returned (.int .i64 (roomi x.k x.n x.m)) ∧ Below w.heap.size w w' from by
        have := NR.out x hxL w
        rwa [if_pos (LRt.out x hxL)] at this))
      have PP := Lib.hid (fun (w : World) (h : Put w G L i l) (v : Value) (hv : TabRow w x v) => h.put hx LD.out (LW.out x hxL) hv)
      have hlt1 : wu.heap.size < wa.heap.size := g_lt ra
      clear hxe hx ra ba hxL
      go_wp2_with fail
      refine LK.out.mono ?_
      rintro e w5 ⟨v, rfl, ht, b5⟩
      obtain ⟨p5, R, c5, ys, rfl, t1, t2, t3⟩ := id ht
      rw [t3] at NRx
      have HT := Lib.hid ht
      have HB5 := Lib.hid b5
      obtain ⟨d0, d1, d2, d3⟩ := HBX.out w5 b5
      clear ht b5 t1 t2 t3 k0 k1 k2 k3 hb
      go_wp2_with fail
      refine (NRx.out _).mono ?_
      rintro e w6 ⟨rfl, b6⟩
      have hRR : ((R : Int) != (R : Int)) = false := by simp
      have HB6 := Lib.hid (HB5.out.trans (b6.mono HB5.out.size))
      obtain ⟨d0, d1, d2, d3⟩ := HBX.out w6 HB6.out
      have HPu := Lib.hid ((HP.out.below HBa.out).below HB6.out)
      have Bu6 := Lib.hid (show Below wu.heap.size wu w6 from HBa.out.trans (HB6.out.mono HBa.out.size))
      have HWk6 := (Bu6.out.block _ (g_lt HWk.out)).trans HWk.out
      have kw : w6.cell? ⟨G + 1, 0, none⟩ = some (.map (some G)) := by rw [cell_of_row _ _ _ _ _ _ HWk6]; rfl
      obtain ⟨pu, pn⟩ := PP.out w6 HPu.out _ (HT.out.below b6)
      have hpu := pu w6 rfl
      simp only [Nam.val] at hpu
      have HPN := Lib.hid pn
      have HW7 := Lib.hid (show (setBlock w6 G (gMap (l ++ [(x.val, .slice p5 R c5)]))).heap[G + 1]? = some (.cells #[.map (some G)] 116 (0, 0)) from (gs_heap (by omega)).trans HWk6)
      have HB7 := Lib.hid (show Below G w2 (setBlock w6 G (gMap (l ++ [(x.val, .slice p5 R c5)]))) from (HBL.out.trans (Bu6.out.mono (by have := g_lt HWk.out; omega))).trans (gs_below (Nat.le_refl _)))
      clear b6 pu pn HWk6
      go_wp2_with fail
      go_roundw
      case rel => exact ⟨i + 1, _, by omega, by first | rw [WI.out] | go_num, HPN, HW7, HB7⟩
      case measure => first | (first | (simp [intOf]; done) | (simp [intOf]; omega) | (simp only [intOf]; omega)) | (rw [WI.out]; simp only [intOf]; omega)
    · have hii : ¬ (i : Int) < (L.length : Int) := by omega
      have HT := Lib.hid (HP.out.tabs (by omega))
      have HBW := Lib.hid (show Below W.heap.size W wu from (HB0.out.trans (HB2.out.mono HB0.out.size)).trans (HBL.out.mono (by have := HB0.out.size; have := H3.out.2.2.2; omega)))
      have RD := Lib.hid (c_red (c := c) (HX.out wu HBW.out))
      clear hil
      go_wp2_with fail
      refine RD.out.mono ?_
      rintro e w7 ⟨p7, c7, rfl, r7, b7⟩
      have HR7 := Lib.hid r7
      have HB7 := Lib.hid b7
      clear r7 b7
      go_wp2_with fail
      refine (exec_rest _).mono ?_
      rintro e w8 ⟨rfl, rfl⟩
      have HT7 := Lib.hid (HT.out.below HB7.out)
      have HBW7 := Lib.hid (HBW.out.trans (HB7.out.mono HBW.out.size))
      have RN := Lib.hid (RT.out w7 HBW7.out G HT7.out w7 (Below.refl _ _) p7 c7 (redl xs) HR7.out)
      have HWk7 := (HB7.out.block _ (g_lt HWk.out)).trans HWk.out
      have kw : w7.cell? ⟨G + 1, 0, none⟩ = some (.map (some G)) := by rw [cell_of_row _ _ _ _ _ _ HWk7]; rfl
      have B07 := Lib.hid (show Below w0.heap.size w0 w7 from (HB2.out.trans (HBL.out.mono H3.out.2.2.2)).trans (HB7.out.mono (by have := HB2.out.size; have := HBL.out.size; have := H3.out.2.2.2; omega)))
      obtain ⟨c0, c1, c2⟩ := BX.out w7 B07.out
      clear HWk7
      go_wp2_with fail
      refine RN.out.mono ?_
      rintro e w9 ⟨p9, c9, rfl, r9, n9, b9⟩
      have HR9 := Lib.hid (And.intro r9 (HBW7.out.trans (b9.mono HBW7.out.size)))
      clear r9 n9 b9 c0 c1 c2 kw
      go_wp2_with fail
      refine (exec_rest _).mono ?_
      rintro e w10 ⟨rfl, rfl⟩
      go_wp2_with fail
      go_ret2
      exact ⟨_, _, rfl, HR9.out.1, HR9.out.2⟩
end Go.Proofs.YtbhnlfgccldmaaaGreat
/- 'append(l, m...)' of names, of many or of none. -/
namespace Go.Proofs.YtbhnlfgccldmaaaGreat
open Go.ChangeShapes Go.WideShapes Go.ChangeAt Go.RowKit
set_option linter.unusedVariables false
/-- Nothing onto nothing. -/
theorem append_nil_zero {ops : Array Oper} {rest : List Oper} {o : Oper} {a : Act} {Q : Exit → Act → World → Prop} {W : World} {T E : TypeId} {i0 : TypeInfo} {p : Option Addr} {c : Nat}
    (hT : Tryz.prog.underlying T = some (.slice E)) (hi : Tryz.prog.info? E = some i0) (hgd : o.guard = none) (s x : Operand)
    (ho : o.op = .call { callee := .builtin .append, args := #[s, x], argTypes := #[T, T] }) (hs : a.eval s = .slice none 0 0) (hx : a.eval x = .slice p 0 c)
    (h : wpList Tryz.prog ops Q rest (a.put o.dst (.slice none 0 0)) W) : wpList Tryz.prog ops Q (o :: rest) a W := by
  have hsrc : Src Tryz.prog i0.size T (.slice p 0 c) 0 [] W := by
    cases p with
    | none => exact Src.ofNil W hT c
    | some ad => exact Src.ofSlice W hT ad 0 c [] (by simp) (fun j u hj => by simp at hj) (fun u hu => by cases hu)
  have hrun : (Builtin.append_ #[T, T] o.type #[.slice none 0 0, .slice p 0 c]).run Tryz.prog W = .ok (.slice none 0 0) W := by
    rcases hsrc.kind with ⟨e', hk⟩ | hk <;> simp [Builtin.append_, run_underlying hT, run_underlying hk, sizeOf, typeInfo, hi, hsrc.len, hsrc.cells]
  refine wpList_plain hgd fun _ hK => ?_
  unfold Oper.wp execOp
  simp only [ho, resolve, invoke, builtin, Sem.run_bind, Sem.run_pure, Result.andThen_ok, List.map_toArray, List.map_cons, List.map_nil, hx, hs, hrun]
  exact hK _ _ h
theorem name_info : ∃ i z, Tryz.prog.info? 82 = some i ∧ i.zero = some z ∧ i.size = 4 ∧ i.bytes = 32 ∧ z.cells.size = 4 := by
  obtain ⟨i0, hi⟩ : ∃ i, Tryz.prog.info? 82 = some i := by
    cases h0 : Tryz.prog.info? 82 with
    | none => have := info_name; rw [h0] at this; cases this
    | some i => exact ⟨i, rfl⟩
  have h1 := info_name
  rw [hi] at h1
  simp only [Option.map_some, Option.some.injEq, Prod.mk.injEq] at h1
  obtain ⟨hz, hsz, hby⟩ := h1
  obtain ⟨z, hz1, hz2⟩ : ∃ z, i0.zero = some z ∧ z.cells.size = 4 := by
    cases h0 : i0.zero with
    | none => rw [h0] at hz; cases hz
    | some z => rw [h0] at hz; simp at hz; exact ⟨z, rfl, hz⟩
  exact ⟨i0, z, hi, hz1, hsz, hby, hz2⟩
theorem flat_len (l : List Nam) : (l.flatMap Nam.cells).length = l.length * 4 := by
  induction l with
  | nil => rfl
  | cons x r ih => rw [List.flatMap_cons, List.length_append, ih]; simp [Nam.cells]; omega
theorem flat_one (l : List Nam) : ∀ u ∈ l.flatMap Nam.cells, u.oneCell' = true := by
  intro u hu
  obtain ⟨x, _, hx⟩ := List.mem_flatMap.1 hu
  simp [Nam.cells] at hx
  rcases hx with rfl | rfl | rfl | rfl <;> rfl
/-- Of one at least, at the operation. -/
theorem wp_append_nms {o : Oper} {a : Act} {K : Act → World → Prop} {Q : Exit → Act → World → Prop} {W : World} {B lim : Nat} {v : Value} {l l2 : List Nam} {p : Option Addr} {c : Nat} (s x : Operand)
    (ho : o.op = .call { callee := .builtin .append, args := #[s, x], argTypes := #[78, 78] }) (hs : a.eval s = v) (hown : OwnNm W B v l) (hx : a.eval x = .slice p l2.length c) (hr : NRow W lim p l2) (h0 : l2 ≠ []) (hB : B ≤ W.heap.size) (hn : l.length + l2.length < 8388608)
    (h : ∀ v' w', OwnNm w' B v' (l ++ l2) → Below B W w' → K (a.put o.dst v') w') : o.wp Tryz.prog a W K Q := by
  obtain ⟨i0, z, hi, hz1, hsz, hby, hz2⟩ := name_info
  rcases hr with hr | ⟨b, o', rfl, hb, hc⟩
  · exact absurd hr h0
  have hpos : 0 < l2.length := List.length_pos_iff.2 h0
  refine wp_append_lies _ s x 78 ho B 82 i0 z 4 32 Tryz.underlying78 hi hz1 hsz hby hz2 (by decide) v l.length (l.flatMap Nam.cells) hs hown ⟨b, o', none⟩ l2.length c (l2.flatMap Nam.cells) hx (flat_len l2) ?_ (flat_one l2) hpos (by unfold maxLen; omega) (by omega) hB _ rfl ?_
  · intro j u hj
    have hj2 : j < l2.length * 4 := by rw [← flat_len]; exact (List.getElem?_eq_some_iff.1 hj).1
    obtain ⟨i, t, ht, rfl⟩ : ∃ i t, t < 4 ∧ j = i * 4 + t := ⟨j / 4, j % 4, Nat.mod_lt _ (by omega), by omega⟩
    have hil : i < l2.length := by omega
    obtain ⟨f0, f1, f2, f3⟩ := flat_at l2 i hil
    obtain ⟨q0, q1, q2, q3⟩ := hc i hil
    rw [add_plain]
    have h4 : t = 0 ∨ t = 1 ∨ t = 2 ∨ t = 3 := by omega
    rcases h4 with rfl | rfl | rfl | rfl
    · rw [Nat.add_zero, f0] at hj; cases hj; simpa [Nat.add_assoc] using q0
    · rw [f1] at hj; cases hj; simpa [Nat.add_assoc] using q1
    · rw [f2] at hj; cases hj; simpa [Nat.add_assoc] using q2
    · rw [f3] at hj; cases hj; simpa [Nat.add_assoc] using q3
  · intro g cap w' h2 h3 _ _
    refine h _ w' ?_ ((Below.refl _ _).grown h3 hB (fun i hi => (World.ownsRow.lt hown i hi).1))
    unfold OwnNm
    rw [List.length_append, List.flatMap_append]
    exact h2
/-- Of many, or of none. -/
theorem append_nms {ops : Array Oper} {rest : List Oper} {o : Oper} {a : Act} {Q : Exit → Act → World → Prop} {W : World} {B lim : Nat} {v : Value} {l l2 : List Nam} {p : Option Addr} {c : Nat} (hgd : o.guard = none) (s x : Operand)
    (ho : o.op = .call { callee := .builtin .append, args := #[s, x], argTypes := #[78, 78] }) (hs : a.eval s = v) (hown : OwnNm W B v l) (hx : a.eval x = .slice p l2.length c) (hr : NRow W lim p l2) (hB : B ≤ W.heap.size) (hn : l.length + l2.length < 8388608)
    (h : ∀ v' w', OwnNm w' B v' (l ++ l2) → Below B W w' → wpList Tryz.prog ops Q rest (a.put o.dst v') w') : wpList Tryz.prog ops Q (o :: rest) a W := by
  obtain ⟨i0, z, hi, hz1, hsz, hby, hz2⟩ := name_info
  by_cases h0 : l2 = []
  · subst h0
    rw [List.append_nil] at h
    rcases hown.kind with ⟨rfl, hnil⟩ | ⟨g, cg, rfl⟩
    · exact append_nil_zero Tryz.underlying78 hi hgd s x ho hs hx (h _ W hown (Below.refl _ _))
    · have hsrc : Src Tryz.prog i0.size 78 (.slice p 0 c) 0 [] W := by
        cases p with
        | none => exact Src.ofNil W Tryz.underlying78 c
        | some ad => exact Src.ofSlice W Tryz.underlying78 ad 0 c [] (by simp) (fun j u hj => by simp at hj) (fun u hu => by cases hu)
      obtain ⟨_, _, e, _, hcap, _⟩ := hown.row
      simp only [Value.slice.injEq, true_and] at e
      have hrun := run_append_room_src (P := Tryz.prog) W 78 78 o.type 82 i0 Tryz.underlying78 hi g 0 l.length cg _ 0 [] hsrc (by omega) (fun j hj => by simp at hj) (fun j hj => by simp at hj)
      have hset : W.setCells g (0 + l.length * i0.size) [] = W := rfl
      rw [hset] at hrun
      refine wpList_plain hgd fun _ hK => ?_
      unfold Oper.wp execOp
      have hx0 : a.eval x = .slice p 0 c := hx
      simp only [ho, resolve, invoke, builtin, Sem.run_bind, Sem.run_pure, Result.andThen_ok, List.map_toArray, List.map_cons, List.map_nil, hx0, hs, hrun]
      exact hK _ _ (h _ W hown (Below.refl _ _))
  · exact wpList_plain hgd fun _ hK => wp_append_nms s x ho hs hown hx hr h0 hB hn fun v' w' h1 h2 => hK _ _ (h v' w' h1 h2)
end Go.Proofs.YtbhnlfgccldmaaaGreat
/- Reference 15's Same: are two rows of names one? -/
namespace Go.Proofs.YtbhnlfgccldmaaaGreat
open Go.ChangeShapes Go.WideShapes Go.ChangeAt Go.RowKit
set_option linter.unusedVariables false
end Go.Proofs.YtbhnlfgccldmaaaGreat
