/- Law 45: reference 45's Of. By program (genlof.py). -/
import Derived.Test.YtfilbdmenlhoiaaLlt
import Derived.Test.YtfilbdmenlhoiaaLsm
namespace Go.Proofs.Ytfilbdmenlhoiaa
open Go.ChangeShapes Go.WideShapes Go.ChangeAt Go.RowKit
set_option linter.unusedVariables false
set_option linter.unusedSimpArgs false
def ofS (s : Ld) (x : Oi) : Ld :=
  if x.t = -1 then ⟨wrap64 (s.c + 1), s.e, s.d, s.g⟩
  else ⟨wrap64 (s.c + 1), if x.e = 0 then s.e else wrap64 (s.e + 1), wrap64 (s.d + 1), if s.g < lastN x then lastN x else s.g⟩
def ofN (l : List Oi) : Ld := l.foldl ofS ⟨0, 0, 0, 0⟩
theorem ofN_succ {l : List Oi} {i : Nat} {x : Oi} (h : l[i]? = some x) : ofN (l.take (i + 1)) = ofS (ofN (l.take i)) x := by
  unfold ofN
  rw [List.take_add_one, h, List.foldl_append]
  rfl
def RdB (w : World) (b : Nat) (x : Ld) : Prop := w.heap[b]? = some (.cells #[.int .i64 x.c, .int .i64 x.e, .int .i64 x.d, .int .i64 x.g] 34 (0, 0))
theorem RdB.cells {w : World} {b : Nat} {x : Ld} (h : RdB w b x) : w.cell? ⟨b, 0, none⟩ = some (.int .i64 x.c) ∧ w.cell? ⟨b, 1, none⟩ = some (.int .i64 x.e) ∧ w.cell? ⟨b, 2, none⟩ = some (.int .i64 x.d) ∧ w.cell? ⟨b, 3, none⟩ = some (.int .i64 x.g) ∧ w.frozen? ⟨b, 0, none⟩ = false ∧ w.frozen? ⟨b, 1, none⟩ = false ∧ w.frozen? ⟨b, 2, none⟩ = false ∧ w.frozen? ⟨b, 3, none⟩ = false :=
  ⟨by rw [cell_of_row _ _ _ _ _ _ h]; rfl, by rw [cell_of_row _ _ _ _ _ _ h]; rfl, by rw [cell_of_row _ _ _ _ _ _ h]; rfl, by rw [cell_of_row _ _ _ _ _ _ h]; rfl, frozen_of_row _ _ _ _ _ h, frozen_of_row _ _ _ _ _ h, frozen_of_row _ _ _ _ _ h, frozen_of_row _ _ _ _ _ h⟩
theorem RdB.set0 {w : World} {b : Nat} {x : Ld} (h : RdB w b x) (v : Int) : RdB (w.setCell ⟨b, 0, none⟩ (.int .i64 v)) b ⟨v, x.e, x.d, x.g⟩ := by unfold RdB; rw [row_set4 h]; rfl
theorem RdB.set1 {w : World} {b : Nat} {x : Ld} (h : RdB w b x) (v : Int) : RdB (w.setCell ⟨b, 1, none⟩ (.int .i64 v)) b ⟨x.c, v, x.d, x.g⟩ := by unfold RdB; rw [row_set4 h]; rfl
theorem RdB.set2 {w : World} {b : Nat} {x : Ld} (h : RdB w b x) (v : Int) : RdB (w.setCell ⟨b, 2, none⟩ (.int .i64 v)) b ⟨x.c, x.e, v, x.g⟩ := by unfold RdB; rw [row_set4 h]; rfl
theorem RdB.set3 {w : World} {b : Nat} {x : Ld} (h : RdB w b x) (v : Int) : RdB (w.setCell ⟨b, 3, none⟩ (.int .i64 v)) b ⟨x.c, x.e, x.d, v⟩ := by unfold RdB; rw [row_set4 h]; rfl
theorem RdB.other {w : World} {b g o : Nat} {x : Ld} {v : Value} (h : RdB w b x) (hn : b ≠ g) : RdB (w.setCell ⟨g, o, none⟩ v) b x := (heap_setCell_other w ⟨g, o, none⟩ b v hn).trans h
theorem ru4_at {w : World} {b : Nat} {x y : Ld} (h : RdB w b y) : RdB (u4 w b x) b x := by
  unfold RdB u4
  rw [row_set4 (row_set4 (row_set4 (row_set4 h _) _) _) _]; rfl
theorem rd_size : (Try.prog.info? 34).map (·.size) = some 4 := by kernel_rfl
set_option maxRecDepth 100000 in
set_option maxHeartbeats 8000000 in
theorem r45_of (v : Value) (l : List Oi) (lim : Nat) (W : World) (hR : RowO W lim v l) (hlim : lim ≤ W.heap.size) (hn : l.length ≤ 10000) :
    Calls Try.prog 11 #[v] W fun e w' => e = .returned (.agg #[.int .i64 (ofN l).c, .int .i64 (ofN l).e, .int .i64 (ofN l).d, .int .i64 (ofN l).g]) ∧ Below W.heap.size W w' := by
  have HR := Lib.hid hR
  obtain ⟨p, c, rfl, -⟩ := hR
  have HN := Lib.hid hn
  have HL := Lib.hid hlim
  clear hn hlim
  obtain ⟨R, hR⟩ : ∃ R, W.heap.size = R := ⟨_, rfl⟩
  obtain ⟨w0, hw0⟩ : ∃ w0, (W.alloc (.cells #[.int .i64 0, .int .i64 0, .int .i64 0, .int .i64 0] 34)).alloc (.cells #[.int .i64 0, .int .i64 0, .int .i64 0, .int .i64 0] 34) = w0 := ⟨_, rfl⟩
  have H0 := Lib.hid (show RdB w0 R ⟨0, 0, 0, 0⟩ ∧ RdB w0 (R + 1) ⟨0, 0, 0, 0⟩ ∧ Below R W w0 from by
    subst hR
    have h1 := heap_alloc_new W (.cells #[.int .i64 0, .int .i64 0, .int .i64 0, .int .i64 0] 34)
    have h2 := heap_alloc_new (W.alloc (.cells #[.int .i64 0, .int .i64 0, .int .i64 0, .int .i64 0] 34)) (.cells #[.int .i64 0, .int .i64 0, .int .i64 0, .int .i64 0] 34)
    rw [World.size_alloc, hw0] at h2
    have h3 : w0.heap[W.heap.size]? = some (.cells #[.int .i64 0, .int .i64 0, .int .i64 0, .int .i64 0] 34 (0, 0)) := by
      rw [← hw0]
      exact (((Below.refl _ _).alloc (Nat.le_refl _) _ : Below (W.alloc (.cells #[.int .i64 0, .int .i64 0, .int .i64 0, .int .i64 0] 34)).heap.size (W.alloc (.cells #[.int .i64 0, .int .i64 0, .int .i64 0, .int .i64 0] 34)) _).block _ (by simp)).trans h1
    exact ⟨h3, h2, by rw [← hw0]; exact ((Below.refl _ _).alloc (Nat.le_refl _) _).alloc (by simp) _⟩)
  have HW := Lib.hid hw0
  clear hw0
  go_enter Try.func11, Try.ntmps11
  go_wp2_with fail
  go_loopw [4] (fun x wr => ∃ (i : Nat), x = .int .i64 i ∧ Hid (i ≤ l.length) ∧ Hid (RdB wr (R + 1) (ofN (l.take i))) ∧ Hid (RdB wr R ⟨0, 0, 0, 0⟩) ∧ Hid (Below R W wr)) (fun x _ => l.length - (match x with | .int _ n => n.toNat | _ => 0))
  case atStart =>
    rw [HW.out]
    exact ⟨0, rfl, Lib.hid (Nat.zero_le _), Lib.hid H0.out.2.1, Lib.hid H0.out.1, Lib.hid H0.out.2.2⟩
  case round =>
    obtain ⟨i, rfl, HI, HS1, HZ1, HB1⟩ := hrel
    obtain ⟨w1, rfl⟩ : ∃ w, w = wr := ⟨_, rfl⟩
    by_cases hi : i < l.length
    · obtain ⟨x, hx⟩ : ∃ x, l[i]? = some x := ⟨_, List.getElem?_eq_getElem hi⟩
      obtain ⟨b, o, cs, rfl, hbl, hv, hc⟩ := HR.out.get hx
      have hbR : b < R := by have := HL.out; omega
      have HCC := Lib.hid hc
      have HV := Lib.hid hv
      have SP := Lib.hid (ofN_succ hx)
      have CL := Lib.hid (r45_lasted cs x hv)
      have WR := Lib.hid (show wrap64 ((i : Int) + 1) = ((i + 1 : Nat) : Int) by have := HN.out; simp only [wrap64]; omega)
      obtain ⟨sc, se, sd, sg, hs⟩ : ∃ sc se sd sg, ofN (l.take i) = ⟨sc, se, sd, sg⟩ := ⟨_, _, _, _, rfl⟩
      rw [hs] at HS1
      have HSS := Lib.hid hs
      have HLN := Lib.hid (show lastN x = lastN x from rfl)
      obtain ⟨ln, hln⟩ : ∃ ln, lastN x = ln := ⟨_, rfl⟩
      rw [hln] at CL
      have HLN := Lib.hid hln
      have AT := Lib.hid (fun (u : World) (hB : Below R W u) => (show ∀ k v, cs[k]? = some v → u.cell? ⟨b, o + i * 19 + k, none⟩ = some v from fun k v hk => (hB.cell hbR).trans (HCC.out k v hk)))
      clear hs hx hc hv hln
      have hbl1 : b < w1.heap.size := by have := HB1.out.size; have := g_lt HZ1.out; omega
      have c9_1 := AT.out w1 HB1.out 9 _ HV.out.he
      have c18_1 := AT.out w1 HB1.out 18 _ HV.out.ht
      obtain ⟨s0, s1, s2, s3, f0, f1, f2, f3⟩ := HS1.out.cells
      simp only at s0 s1 s2 s3
      go_upto_region 6 with fail
      obtain ⟨w2, hw2⟩ : ∃ w, w1.setCell ⟨R + 1, 0, none⟩ (.int .i64 (wrap64 (sc + 1))) = w := ⟨_, rfl⟩
      have HS2 := Lib.hid (HS1.out.set0 (wrap64 (sc + 1)))
      have HZ2 := Lib.hid (HZ1.out.other (g := R + 1) (o := 0) (v := .int .i64 (wrap64 (sc + 1))) (by omega))
      have HB2 := Lib.hid (HB1.out.setCell (p := ⟨R + 1, 0, none⟩) (Nat.le_succ R) (.int .i64 (wrap64 (sc + 1))))
      rw [hw2] at HS2 HZ2 HB2
      simp only at HS2
      rw [hw2]
      clear hw2 hbl1 c9_1 c18_1 s0 s1 s2 s3 f0 f1 f2 f3
      have hbl2 : b < w2.heap.size := by have := HB2.out.size; have := g_lt HZ2.out; omega
      have c9_2 := AT.out w2 HB2.out 9 _ HV.out.he
      have c18_2 := AT.out w2 HB2.out 18 _ HV.out.ht
      obtain ⟨s0, s1, s2, s3, f0, f1, f2, f3⟩ := HS2.out.cells
      simp only at s0 s1 s2 s3
      by_cases ht : x.t = -1
      · have hd : (x.t == -1) = true := by simp [ht]
        have QE : ofS ⟨sc, se, sd, sg⟩ x = ⟨wrap64 (sc + 1), se, sd, sg⟩ := by unfold ofS; rw [if_pos ht]
        have HQE := Lib.hid QE
        clear QE ht
        go_wp2_with fail
        go_roundw
        case rel =>
          refine ⟨i + 1, by rw [WR.out], Lib.hid hi, Lib.hid ?_, HZ2, HB2⟩
          rw [SP.out, HSS.out, show ofS ⟨sc, se, sd, sg⟩ x = ⟨wrap64 (sc + 1), se, sd, sg⟩ from HQE.out]
          exact HS2.out
        case measure => simp [WR.out]; omega
      · have hd : (x.t == -1) = false := by simp [ht]
        go_upto_region 8 with fail
        obtain ⟨w3, hw3⟩ : ∃ w, w2.setCell ⟨R + 1, 2, none⟩ (.int .i64 (wrap64 (sd + 1))) = w := ⟨_, rfl⟩
        have HS3 := Lib.hid (HS2.out.set2 (wrap64 (sd + 1)))
        have HZ3 := Lib.hid (HZ2.out.other (g := R + 1) (o := 2) (v := .int .i64 (wrap64 (sd + 1))) (by omega))
        have HB3 := Lib.hid (HB2.out.setCell (p := ⟨R + 1, 2, none⟩) (Nat.le_succ R) (.int .i64 (wrap64 (sd + 1))))
        rw [hw3] at HS3 HZ3 HB3
        simp only at HS3
        rw [hw3]
        clear hw3 hbl2 c9_2 c18_2 s0 s1 s2 s3 f0 f1 f2 f3
        have hbl3 : b < w3.heap.size := by have := HB3.out.size; have := g_lt HZ3.out; omega
        have c9_3 := AT.out w3 HB3.out 9 _ HV.out.he
        have c18_3 := AT.out w3 HB3.out 18 _ HV.out.ht
        obtain ⟨s0, s1, s2, s3, f0, f1, f2, f3⟩ := HS3.out.cells
        simp only at s0 s1 s2 s3
        by_cases he : x.e = 0
        · have hd2 : (x.e != 0) = false := by simp [he]
          have HQE := Lib.hid (show ofS ⟨sc, se, sd, sg⟩ x = ⟨wrap64 (sc + 1), se, wrap64 (sd + 1), if sg < ln then ln else sg⟩ by rw [← HLN.out]; unfold ofS; rw [if_neg ht, if_pos he])
          clear he
          have hRl : R + 1 < w3.heap.size := g_lt HS3.out
          have MK := Lib.hid (fun w' (hb : Below w3.heap.size w3 w') => (show w'.rangeAt b (o + i * 19) cs.toList ∧ w'.cell? ⟨R + 1, 3, none⟩ = some (.int .i64 sg) ∧ Below w3.heap.size w3 w' from ⟨ops_load (fun k v hk => (hb.cell hbl3).trans (AT.out w3 HB3.out k v hk)), (hb.cell hRl).trans s3, hb⟩))
          have KP := Lib.hid (fun w1 w' (hS : w1.rangeAt b (o + i * 19) cs.toList ∧ w1.cell? ⟨R + 1, 3, none⟩ = some (.int .i64 sg) ∧ Below w3.heap.size w3 w1) (hb : Below w1.heap.size w1 w') => MK.out w' (hS.2.2.trans (hb.mono hS.2.2.size)))
          have SB := Lib.hid (fun w1 (hS : w1.rangeAt b (o + i * 19) cs.toList ∧ w1.cell? ⟨R + 1, 3, none⟩ = some (.int .i64 sg) ∧ Below w3.heap.size w3 w1) => hS.2.2)
          go_upto_region 10 with fail
          refine wp_region_held_drew (S := (fun w' => w'.rangeAt b (o + i * 19) cs.toList ∧ w'.cell? ⟨R + 1, 3, none⟩ = some (.int .i64 sg) ∧ Below w3.heap.size w3 w')) (by kernel_rfl) ?_ (fun hHeld => ?_)
          · (try dsimp only); (first | exact MK.out _ (Below.refl _ _) | exact MK.out _ ((Below.refl _ _).drew) | assumption | (refine KP.out _ _ ?_ hb; first | assumption | exact MK.out _ ((Below.refl _ _).drew)))
          refine wpAnyH_take (i := 0) (v := ?v3_0) rfl (by kernel_rfl) (by kernel_rfl) (by kernel_rfl) (fun _ _ _ h => h) (Or.inl ⟨by kernel_rfl, ?hy3_0⟩) (by assumption) ?rest3_0
          case hy3_0 => intro w hSw; (try dsimp only at hSw); go_simp; (first | done | with_reducible rfl)
          (try simp only [Act.put, List.getElem_toArray, List.getElem_cons_zero, List.getElem_cons_succ, List.setIfInBounds_toArray, List.set_cons_zero, List.set_cons_succ])
          refine wpAnyH_take (i := 1) (v := ?v3_1) rfl (by kernel_rfl) (by kernel_rfl) (by kernel_rfl) (fun _ _ _ h => h) (Or.inl ⟨by kernel_rfl, ?hy3_1⟩) (by assumption) ?rest3_1
          case hy3_1 => intro w hSw; (try dsimp only at hSw); go_simp; (first | done | with_reducible rfl)
          (try simp only [Act.put, List.getElem_toArray, List.getElem_cons_zero, List.getElem_cons_succ, List.setIfInBounds_toArray, List.set_cons_zero, List.set_cons_succ])
          refine wpAnyH_take (i := 2) (v := ?v3_2) rfl (by kernel_rfl) (by kernel_rfl) (by kernel_rfl) (fun _ _ _ h => h) (Or.inl ⟨by kernel_rfl, ?hy3_2⟩) (by assumption) ?rest3_2
          case hy3_2 => intro w hSw; (try dsimp only at hSw); go_simp; (first | done | with_reducible rfl)
          (try simp only [Act.put, List.getElem_toArray, List.getElem_cons_zero, List.getElem_cons_succ, List.setIfInBounds_toArray, List.set_cons_zero, List.set_cons_succ])
          refine wpAnyH_take (i := 3) (v := .agg cs) rfl (by kernel_rfl) (by kernel_rfl) (by kernel_rfl) (fun _ _ _ h => h) (yieldsIf_load_mid (by kernel_rfl) 51 _ rfl b (o + i * 19) rfl cs.toList _ (fun w h => h.1) Try.underlying51 rfl (by rw [Array.length_toList, HV.out.n]; exact op_size)) (by assumption) ?_
          (try simp only [Act.put, List.getElem_toArray, List.getElem_cons_zero, List.getElem_cons_succ, List.setIfInBounds_toArray, List.set_cons_zero, List.set_cons_succ])
          refine wpAnyH_take (i := 5) (v := ?v3_5) rfl (by kernel_rfl) (by kernel_rfl) (by kernel_rfl) (fun _ _ _ h => h) (Or.inl ⟨by kernel_rfl, ?hy3_5⟩) (by assumption) ?rest3_5
          case hy3_5 => intro w hSw; (try dsimp only at hSw); go_simp; (first | done | with_reducible rfl)
          (try simp only [Act.put, List.getElem_toArray, List.getElem_cons_zero, List.getElem_cons_succ, List.setIfInBounds_toArray, List.set_cons_zero, List.set_cons_succ])
          refine wpAnyH_take (i := 6) (v := ?v3_6) rfl (by kernel_rfl) (by kernel_rfl) (by kernel_rfl) (fun _ _ _ h => h) (Or.inl ⟨by kernel_rfl, ?hy3_6⟩) (by assumption) ?rest3_6
          case hy3_6 => intro w hSw; (try dsimp only at hSw); go_simp; (first | done | with_reducible rfl)
          (try simp only [Act.put, List.getElem_toArray, List.getElem_cons_zero, List.getElem_cons_succ, List.setIfInBounds_toArray, List.set_cons_zero, List.set_cons_succ])
          refine wpAnyH_ready (rs := [4]) (by kernel_rfl) (by simp) ?_
          refine AllReadyH.cons rfl (fun K hK => ?_) AllReadyH.nil
          go_simp
          go_at_call 20
          (with_reducible refine (CL.out _).mono ?_)
          rintro e w' ⟨rfl, hb⟩
          (try go_wp2_with fail)
          refine hK.out _ _ ?_ (fun hHeld2 => ?_)
          · (try dsimp only); (first | exact MK.out _ (Below.refl _ _) | exact MK.out _ ((Below.refl _ _).drew) | assumption | (refine KP.out _ _ ?_ hb; first | assumption | exact MK.out _ ((Below.refl _ _).drew)))
          clear hK K hHeld
          have hHeld := hHeld2
          clear hHeld2
          (try simp only [Act.put, List.getElem_toArray, List.getElem_cons_zero, List.getElem_cons_succ, List.setIfInBounds_toArray, List.set_cons_zero, List.set_cons_succ])
          refine wpAnyH_take (i := 7) (v := ?v3_7) rfl (by kernel_rfl) (by kernel_rfl) (by kernel_rfl) (fun _ _ _ h => h) (Or.inl ⟨by kernel_rfl, ?hy3_7⟩) (by assumption) ?rest3_7
          case hy3_7 => intro w hSw; (try dsimp only at hSw); go_simp; (first | done | with_reducible rfl)
          (try simp only [Act.put, List.getElem_toArray, List.getElem_cons_zero, List.getElem_cons_succ, List.setIfInBounds_toArray, List.set_cons_zero, List.set_cons_succ])
          refine wpAnyH_done (by kernel_rfl) ?_ _
          have hBB := SB.out _ hHeld
          obtain ⟨w4, rfl⟩ : ∃ w, w = w' := ⟨_, rfl⟩
          have HS4 := Lib.hid (show RdB w4 (R + 1) _ from (hBB.block _ hRl).trans HS3.out)
          have HZ4 := Lib.hid (show RdB w4 R _ from (hBB.block _ (g_lt HZ3.out)).trans HZ3.out)
          have HB4 := Lib.hid (HB3.out.trans (hBB.mono (by have := g_lt HZ3.out; omega)))
          clear hHeld hBB MK KP SB hbl3 c9_3 c18_3 s0 s1 s2 s3 f0 f1 f2 f3 hRl
          have hbl4 : b < w4.heap.size := by have := HB4.out.size; have := g_lt HZ4.out; omega
          have c9_4 := AT.out w4 HB4.out 9 _ HV.out.he
          have c18_4 := AT.out w4 HB4.out 18 _ HV.out.ht
          obtain ⟨s0, s1, s2, s3, f0, f1, f2, f3⟩ := HS4.out.cells
          simp only at s0 s1 s2 s3
          have LD := Lib.hid (ops_load (AT.out w4 HB4.out))
          by_cases hlt : sg < ln
          · have HQ2 := Lib.hid (show ofS ⟨sc, se, sd, sg⟩ x = ⟨wrap64 (sc + 1), se, wrap64 (sd + 1), ln⟩ by rw [HQE.out, if_pos hlt])
            go_wp2_with (first | refine wpl_op rfl _ rfl _ _ rfl HV.out.n LD.out ?_)
            refine (CL.out _).mono ?_
            rintro e w5 ⟨rfl, hb9⟩
            have HS5 := Lib.hid (show RdB w5 (R + 1) _ from (hb9.block _ (g_lt HS4.out)).trans HS4.out)
            have HZ5 := Lib.hid (show RdB w5 R _ from (hb9.block _ (g_lt HZ4.out)).trans HZ4.out)
            have HB5 := Lib.hid (HB4.out.trans (hb9.mono (by have := g_lt HZ4.out; omega)))
            clear hb9 hbl4 c9_4 c18_4 s0 s1 s2 s3 f0 f1 f2 f3
            have hbl5 : b < w5.heap.size := by have := HB5.out.size; have := g_lt HZ5.out; omega
            have c9_5 := AT.out w5 HB5.out 9 _ HV.out.he
            have c18_5 := AT.out w5 HB5.out 18 _ HV.out.ht
            obtain ⟨s0, s1, s2, s3, f0, f1, f2, f3⟩ := HS5.out.cells
            simp only at s0 s1 s2 s3
            go_wp2_with fail
            obtain ⟨w6, hw6⟩ : ∃ w, w5.setCell ⟨R + 1, 3, none⟩ (.int .i64 (ln)) = w := ⟨_, rfl⟩
            have HS6 := Lib.hid (HS5.out.set3 (ln))
            have HZ6 := Lib.hid (HZ5.out.other (g := R + 1) (o := 3) (v := .int .i64 (ln)) (by omega))
            have HB6 := Lib.hid (HB5.out.setCell (p := ⟨R + 1, 3, none⟩) (Nat.le_succ R) (.int .i64 (ln)))
            rw [hw6] at HS6 HZ6 HB6
            simp only at HS6
            rw [hw6]
            clear hw6 hbl5 c9_5 c18_5 s0 s1 s2 s3 f0 f1 f2 f3
            go_roundw
            case rel =>
              refine ⟨i + 1, by rw [WR.out], Lib.hid hi, Lib.hid ?_, HZ6, HB6⟩
              rw [SP.out, HSS.out, show ofS ⟨sc, se, sd, sg⟩ x = ⟨wrap64 (sc + 1), se, wrap64 (sd + 1), ln⟩ from HQ2.out]
              exact HS6.out
            case measure => simp [WR.out]; omega
          · have HQ2 := Lib.hid (show ofS ⟨sc, se, sd, sg⟩ x = ⟨wrap64 (sc + 1), se, wrap64 (sd + 1), sg⟩ by rw [HQE.out, if_neg hlt])
            go_wp2_with fail
            go_roundw
            case rel =>
              refine ⟨i + 1, by rw [WR.out], Lib.hid hi, Lib.hid ?_, HZ4, HB4⟩
              rw [SP.out, HSS.out, show ofS ⟨sc, se, sd, sg⟩ x = ⟨wrap64 (sc + 1), se, wrap64 (sd + 1), sg⟩ from HQ2.out]
              exact HS4.out
            case measure => simp [WR.out]; omega
        · have hd2 : (x.e != 0) = true := by simp [he]
          have HQE := Lib.hid (show ofS ⟨sc, se, sd, sg⟩ x = ⟨wrap64 (sc + 1), wrap64 (se + 1), wrap64 (sd + 1), if sg < ln then ln else sg⟩ by rw [← HLN.out]; unfold ofS; rw [if_neg ht, if_neg he])
          go_upto_region 10 with fail
          obtain ⟨w4, hw4⟩ : ∃ w, w3.setCell ⟨R + 1, 1, none⟩ (.int .i64 (wrap64 (se + 1))) = w := ⟨_, rfl⟩
          have HS4 := Lib.hid (HS3.out.set1 (wrap64 (se + 1)))
          have HZ4 := Lib.hid (HZ3.out.other (g := R + 1) (o := 1) (v := .int .i64 (wrap64 (se + 1))) (by omega))
          have HB4 := Lib.hid (HB3.out.setCell (p := ⟨R + 1, 1, none⟩) (Nat.le_succ R) (.int .i64 (wrap64 (se + 1))))
          rw [hw4] at HS4 HZ4 HB4
          simp only at HS4
          rw [hw4]
          clear hw4 hbl3 c9_3 c18_3 s0 s1 s2 s3 f0 f1 f2 f3
          have hbl4 : b < w4.heap.size := by have := HB4.out.size; have := g_lt HZ4.out; omega
          have c9_4 := AT.out w4 HB4.out 9 _ HV.out.he
          have c18_4 := AT.out w4 HB4.out 18 _ HV.out.ht
          obtain ⟨s0, s1, s2, s3, f0, f1, f2, f3⟩ := HS4.out.cells
          simp only at s0 s1 s2 s3
          have hRl : R + 1 < w4.heap.size := g_lt HS4.out
          have MK := Lib.hid (fun w' (hb : Below w4.heap.size w4 w') => (show w'.rangeAt b (o + i * 19) cs.toList ∧ w'.cell? ⟨R + 1, 3, none⟩ = some (.int .i64 sg) ∧ Below w4.heap.size w4 w' from ⟨ops_load (fun k v hk => (hb.cell hbl4).trans (AT.out w4 HB4.out k v hk)), (hb.cell hRl).trans s3, hb⟩))
          have KP := Lib.hid (fun w1 w' (hS : w1.rangeAt b (o + i * 19) cs.toList ∧ w1.cell? ⟨R + 1, 3, none⟩ = some (.int .i64 sg) ∧ Below w4.heap.size w4 w1) (hb : Below w1.heap.size w1 w') => MK.out w' (hS.2.2.trans (hb.mono hS.2.2.size)))
          have SB := Lib.hid (fun w1 (hS : w1.rangeAt b (o + i * 19) cs.toList ∧ w1.cell? ⟨R + 1, 3, none⟩ = some (.int .i64 sg) ∧ Below w4.heap.size w4 w1) => hS.2.2)
          refine wp_region_held_drew (S := (fun w' => w'.rangeAt b (o + i * 19) cs.toList ∧ w'.cell? ⟨R + 1, 3, none⟩ = some (.int .i64 sg) ∧ Below w4.heap.size w4 w')) (by kernel_rfl) ?_ (fun hHeld => ?_)
          · (try dsimp only); (first | exact MK.out _ (Below.refl _ _) | exact MK.out _ ((Below.refl _ _).drew) | assumption | (refine KP.out _ _ ?_ hb; first | assumption | exact MK.out _ ((Below.refl _ _).drew)))
          refine wpAnyH_take (i := 0) (v := ?v4_0) rfl (by kernel_rfl) (by kernel_rfl) (by kernel_rfl) (fun _ _ _ h => h) (Or.inl ⟨by kernel_rfl, ?hy4_0⟩) (by assumption) ?rest4_0
          case hy4_0 => intro w hSw; (try dsimp only at hSw); go_simp; (first | done | with_reducible rfl)
          (try simp only [Act.put, List.getElem_toArray, List.getElem_cons_zero, List.getElem_cons_succ, List.setIfInBounds_toArray, List.set_cons_zero, List.set_cons_succ])
          refine wpAnyH_take (i := 1) (v := ?v4_1) rfl (by kernel_rfl) (by kernel_rfl) (by kernel_rfl) (fun _ _ _ h => h) (Or.inl ⟨by kernel_rfl, ?hy4_1⟩) (by assumption) ?rest4_1
          case hy4_1 => intro w hSw; (try dsimp only at hSw); go_simp; (first | done | with_reducible rfl)
          (try simp only [Act.put, List.getElem_toArray, List.getElem_cons_zero, List.getElem_cons_succ, List.setIfInBounds_toArray, List.set_cons_zero, List.set_cons_succ])
          refine wpAnyH_take (i := 2) (v := ?v4_2) rfl (by kernel_rfl) (by kernel_rfl) (by kernel_rfl) (fun _ _ _ h => h) (Or.inl ⟨by kernel_rfl, ?hy4_2⟩) (by assumption) ?rest4_2
          case hy4_2 => intro w hSw; (try dsimp only at hSw); go_simp; (first | done | with_reducible rfl)
          (try simp only [Act.put, List.getElem_toArray, List.getElem_cons_zero, List.getElem_cons_succ, List.setIfInBounds_toArray, List.set_cons_zero, List.set_cons_succ])
          refine wpAnyH_take (i := 3) (v := .agg cs) rfl (by kernel_rfl) (by kernel_rfl) (by kernel_rfl) (fun _ _ _ h => h) (yieldsIf_load_mid (by kernel_rfl) 51 _ rfl b (o + i * 19) rfl cs.toList _ (fun w h => h.1) Try.underlying51 rfl (by rw [Array.length_toList, HV.out.n]; exact op_size)) (by assumption) ?_
          (try simp only [Act.put, List.getElem_toArray, List.getElem_cons_zero, List.getElem_cons_succ, List.setIfInBounds_toArray, List.set_cons_zero, List.set_cons_succ])
          refine wpAnyH_take (i := 5) (v := ?v4_5) rfl (by kernel_rfl) (by kernel_rfl) (by kernel_rfl) (fun _ _ _ h => h) (Or.inl ⟨by kernel_rfl, ?hy4_5⟩) (by assumption) ?rest4_5
          case hy4_5 => intro w hSw; (try dsimp only at hSw); go_simp; (first | done | with_reducible rfl)
          (try simp only [Act.put, List.getElem_toArray, List.getElem_cons_zero, List.getElem_cons_succ, List.setIfInBounds_toArray, List.set_cons_zero, List.set_cons_succ])
          refine wpAnyH_take (i := 6) (v := ?v4_6) rfl (by kernel_rfl) (by kernel_rfl) (by kernel_rfl) (fun _ _ _ h => h) (Or.inl ⟨by kernel_rfl, ?hy4_6⟩) (by assumption) ?rest4_6
          case hy4_6 => intro w hSw; (try dsimp only at hSw); go_simp; (first | done | with_reducible rfl)
          (try simp only [Act.put, List.getElem_toArray, List.getElem_cons_zero, List.getElem_cons_succ, List.setIfInBounds_toArray, List.set_cons_zero, List.set_cons_succ])
          refine wpAnyH_ready (rs := [4]) (by kernel_rfl) (by simp) ?_
          refine AllReadyH.cons rfl (fun K hK => ?_) AllReadyH.nil
          go_simp
          go_at_call 20
          (with_reducible refine (CL.out _).mono ?_)
          rintro e w' ⟨rfl, hb⟩
          (try go_wp2_with fail)
          refine hK.out _ _ ?_ (fun hHeld2 => ?_)
          · (try dsimp only); (first | exact MK.out _ (Below.refl _ _) | exact MK.out _ ((Below.refl _ _).drew) | assumption | (refine KP.out _ _ ?_ hb; first | assumption | exact MK.out _ ((Below.refl _ _).drew)))
          clear hK K hHeld
          have hHeld := hHeld2
          clear hHeld2
          (try simp only [Act.put, List.getElem_toArray, List.getElem_cons_zero, List.getElem_cons_succ, List.setIfInBounds_toArray, List.set_cons_zero, List.set_cons_succ])
          refine wpAnyH_take (i := 7) (v := ?v4_7) rfl (by kernel_rfl) (by kernel_rfl) (by kernel_rfl) (fun _ _ _ h => h) (Or.inl ⟨by kernel_rfl, ?hy4_7⟩) (by assumption) ?rest4_7
          case hy4_7 => intro w hSw; (try dsimp only at hSw); go_simp; (first | done | with_reducible rfl)
          (try simp only [Act.put, List.getElem_toArray, List.getElem_cons_zero, List.getElem_cons_succ, List.setIfInBounds_toArray, List.set_cons_zero, List.set_cons_succ])
          refine wpAnyH_done (by kernel_rfl) ?_ _
          have hBB := SB.out _ hHeld
          obtain ⟨w5, rfl⟩ : ∃ w, w = w' := ⟨_, rfl⟩
          have HS5 := Lib.hid (show RdB w5 (R + 1) _ from (hBB.block _ hRl).trans HS4.out)
          have HZ5 := Lib.hid (show RdB w5 R _ from (hBB.block _ (g_lt HZ4.out)).trans HZ4.out)
          have HB5 := Lib.hid (HB4.out.trans (hBB.mono (by have := g_lt HZ4.out; omega)))
          clear hHeld hBB MK KP SB hbl4 c9_4 c18_4 s0 s1 s2 s3 f0 f1 f2 f3 hRl
          have hbl5 : b < w5.heap.size := by have := HB5.out.size; have := g_lt HZ5.out; omega
          have c9_5 := AT.out w5 HB5.out 9 _ HV.out.he
          have c18_5 := AT.out w5 HB5.out 18 _ HV.out.ht
          obtain ⟨s0, s1, s2, s3, f0, f1, f2, f3⟩ := HS5.out.cells
          simp only at s0 s1 s2 s3
          have LD := Lib.hid (ops_load (AT.out w5 HB5.out))
          by_cases hlt : sg < ln
          · have HQ2 := Lib.hid (show ofS ⟨sc, se, sd, sg⟩ x = ⟨wrap64 (sc + 1), wrap64 (se + 1), wrap64 (sd + 1), ln⟩ by rw [HQE.out, if_pos hlt])
            go_wp2_with (first | refine wpl_op rfl _ rfl _ _ rfl HV.out.n LD.out ?_)
            refine (CL.out _).mono ?_
            rintro e w6 ⟨rfl, hb9⟩
            have HS6 := Lib.hid (show RdB w6 (R + 1) _ from (hb9.block _ (g_lt HS5.out)).trans HS5.out)
            have HZ6 := Lib.hid (show RdB w6 R _ from (hb9.block _ (g_lt HZ5.out)).trans HZ5.out)
            have HB6 := Lib.hid (HB5.out.trans (hb9.mono (by have := g_lt HZ5.out; omega)))
            clear hb9 hbl5 c9_5 c18_5 s0 s1 s2 s3 f0 f1 f2 f3
            have hbl6 : b < w6.heap.size := by have := HB6.out.size; have := g_lt HZ6.out; omega
            have c9_6 := AT.out w6 HB6.out 9 _ HV.out.he
            have c18_6 := AT.out w6 HB6.out 18 _ HV.out.ht
            obtain ⟨s0, s1, s2, s3, f0, f1, f2, f3⟩ := HS6.out.cells
            simp only at s0 s1 s2 s3
            go_wp2_with fail
            obtain ⟨w7, hw7⟩ : ∃ w, w6.setCell ⟨R + 1, 3, none⟩ (.int .i64 (ln)) = w := ⟨_, rfl⟩
            have HS7 := Lib.hid (HS6.out.set3 (ln))
            have HZ7 := Lib.hid (HZ6.out.other (g := R + 1) (o := 3) (v := .int .i64 (ln)) (by omega))
            have HB7 := Lib.hid (HB6.out.setCell (p := ⟨R + 1, 3, none⟩) (Nat.le_succ R) (.int .i64 (ln)))
            rw [hw7] at HS7 HZ7 HB7
            simp only at HS7
            rw [hw7]
            clear hw7 hbl6 c9_6 c18_6 s0 s1 s2 s3 f0 f1 f2 f3
            go_roundw
            case rel =>
              refine ⟨i + 1, by rw [WR.out], Lib.hid hi, Lib.hid ?_, HZ7, HB7⟩
              rw [SP.out, HSS.out, show ofS ⟨sc, se, sd, sg⟩ x = ⟨wrap64 (sc + 1), wrap64 (se + 1), wrap64 (sd + 1), ln⟩ from HQ2.out]
              exact HS7.out
            case measure => simp [WR.out]; omega
          · have HQ2 := Lib.hid (show ofS ⟨sc, se, sd, sg⟩ x = ⟨wrap64 (sc + 1), wrap64 (se + 1), wrap64 (sd + 1), sg⟩ by rw [HQE.out, if_neg hlt])
            go_wp2_with fail
            go_roundw
            case rel =>
              refine ⟨i + 1, by rw [WR.out], Lib.hid hi, Lib.hid ?_, HZ5, HB5⟩
              rw [SP.out, HSS.out, show ofS ⟨sc, se, sd, sg⟩ x = ⟨wrap64 (sc + 1), wrap64 (se + 1), wrap64 (sd + 1), sg⟩ from HQ2.out]
              exact HS5.out
            case measure => simp [WR.out]; omega
    · have e := (show i = l.length by have := HI.out; omega)
      subst e
      have hi : ¬ l.length < l.length := by omega
      rw [List.take_length] at HS1
      obtain ⟨s0, s1, s2, s3, -, -, -, -⟩ := HS1.out.cells
      obtain ⟨r0, r1, r2, r3, f0, f1, f2, f3⟩ := HZ1.out.cells
      have HR2 := Lib.hid (ru4_at (x := ofN l) HZ1.out)
      have HB2 := Lib.hid (HB1.out.trans (u4_below (w := w1) (b := R) (ofN l) (Nat.le_refl _)))
      obtain ⟨w2, hw2⟩ : ∃ w2, u4 w1 R (ofN l) = w2 := ⟨_, rfl⟩
      rw [hw2] at HR2 HB2
      unfold u4 at hw2
      have HW2 := Lib.hid hw2
      clear hw2
      go_wp2_with fail
      rw [HW2.out]
      refine bodyPost_ret (res_c1 (p := 2) (ty := 34) rfl _ _ R 34 #[.int .i64 (ofN l).c, .int .i64 (ofN l).e, .int .i64 (ofN l).d, .int .i64 (ofN l).g] (0, 0) _ rfl HR2.out Try.underlying34 rfl rd_size) rfl ?_
      exact ⟨rfl, HB2.out⟩
end Go.Proofs.Ytfilbdmenlhoiaa
