/- LoadCounts: load.Clients. By program (genlcw.py). -/
import Derived.Test.YtfilbdmenlhoiaaLcm
import Derived.Test.YtfilbdmenlhoiaaLkw
namespace Go.Proofs.Ytfilbdmenlhoiaa
open Go.ChangeShapes Go.WideShapes Go.ChangeAt Go.RowKit
set_option linter.unusedVariables false
open Go.WideMaps Go.MapKept Go.WideElems Go.ChangeMaps Go.Maps
set_option linter.unusedSimpArgs false
def KC (W : World) (R b : Nat) (m : List (Int × Ld)) (cs : Array Value) (w : World) : Prop := w.heap[R]? = some (gMap (aMap ldE m)) ∧ w.heap[b]? = some (.cells cs 51 (0, 0)) ∧ Below R W w ∧ R < b
theorem KC.below {W w w' : World} {R b : Nat} {m : List (Int × Ld)} {cs : Array Value} (h : KC W R b m cs w) (hb : Below w.heap.size w w') : KC W R b m cs w' :=
  ⟨(hb.block _ (g_lt h.1)).trans h.1, (hb.block _ (g_lt h.2.1)).trans h.2.1, h.2.2.1.trans (hb.mono (Nat.le_of_lt (g_lt h.1))), h.2.2.2⟩
theorem KC.drew {W w : World} {R b : Nat} {m : List (Int × Ld)} {cs : Array Value} (h : KC W R b m cs w) : KC W R b m cs w.drew := h.below ((Below.refl _ _).drew)
theorem KC.op {W w : World} {R b : Nat} {m : List (Int × Ld)} {cs : Array Value} (h : KC W R b m cs w) : w.rangeAt b 0 cs.toList := fun j v hj => by rw [Nat.zero_add, cell_of_row _ _ _ _ _ _ h.2.1]; simpa using hj
theorem KC.who {W w : World} {R b : Nat} {m : List (Int × Ld)} {cs : Array Value} (h : KC W R b m cs w) {v : Value} (hv : cs[0]? = some v) : w.cell? ⟨b, 0, none⟩ = some v := by rw [cell_of_row _ _ _ _ _ _ h.2.1]; exact hv
set_option maxRecDepth 100000 in
set_option maxHeartbeats 16000000 in
theorem l_clients (v : Value) (l : List Oi) (lim : Nat) (W : World) (hR : RowO W lim v l) (hlim : lim ≤ W.heap.size) (hn : l.length ≤ 10000) (hok : okO l) (hwo : ∀ x ∈ l, i64ok x.who) :
    Calls Try.prog 9 #[v] W fun e w' => ∃ R, e = .returned (.map (some R)) ∧ w'.heap[R]? = some (gMap (aMap ldE (clTo l l.length))) ∧ W.heap.size ≤ R ∧ Below W.heap.size W w' := by
  have HR := Lib.hid hR
  obtain ⟨p, c, rfl, -⟩ := hR
  have HN := Lib.hid hn
  have HL := Lib.hid hlim
  have OK := Lib.hid hok
  have HAM := Lib.hid (clTo_am l hwo)
  have HWO := Lib.hid hwo
  clear hn hlim hok hwo
  obtain ⟨R, hRs⟩ : ∃ R, W.heap.size = R := ⟨_, rfl⟩
  obtain ⟨w0, hw0⟩ : ∃ w0, W.alloc (.map #[] 0) = w0 := ⟨_, rfl⟩
  have H0 := Lib.hid (show w0.heap[R]? = some (gMap (aMap ldE [])) ∧ Below R W w0 from by
    rw [← hRs, ← hw0]
    exact ⟨heap_alloc_new _ _, (Below.refl _ _).alloc (Nat.le_refl _) _⟩)
  have hmm := @run_makeMap Try.prog
  have HW := Lib.hid hw0
  clear hw0
  go_enter Try.func9, Try.ntmps9
  go_wp2_with fail
  rw [HW.out]
  go_loopw [9] (fun x wr => ∃ (i : Nat), x = .int .i64 i ∧ Hid (i ≤ l.length) ∧ Hid (wr.heap[R]? = some (gMap (aMap ldE (clTo l i)))) ∧ Hid (Below R W wr)) (fun x _ => l.length - (match x with | .int _ n => n.toNat | _ => 0))
  case atStart =>
    exact ⟨0, rfl, Lib.hid (Nat.zero_le _), Lib.hid H0.out.1, Lib.hid H0.out.2⟩
  case round =>
    obtain ⟨i, rfl, HI, HK1, HB1⟩ := hrel
    obtain ⟨w1, rfl⟩ : ∃ w, w = wr := ⟨_, rfl⟩
    by_cases hi : i < l.length
    · obtain ⟨x, hx⟩ : ∃ x, l[i]? = some x := ⟨_, List.getElem?_eq_getElem hi⟩
      obtain ⟨b, o, cs, rfl, hbl, hv, hc⟩ := (HR.out.below (by rw [← hRs] at HB1; exact HB1.out.mono HL.out)).get hx
      have hbl2 : b < w1.heap.size := by have := HL.out; have := HB1.out.size; omega
      have LD := Lib.hid (ops_load hc)
      have HV := Lib.hid hv
      have CO := Lib.hid (fun u => l_of cs x hv u)
      have WR := Lib.hid (show wrap64 ((i : Int) + 1) = ((i + 1 : Nat) : Int) by have := HN.out; simp only [wrap64]; omega)
      have hxm := List.mem_of_getElem? hx
      have XOK := Lib.hid (OK.out x hxm)
      have XW := Lib.hid (HWO.out x hxm)
      have SC := Lib.hid (clTo_succ hx)
      have AMI := Lib.hid (HAM.out i HI.out)
      obtain ⟨wb, hwb⟩ : ∃ wb, w1.alloc (.cells cs 51) = wb := ⟨_, rfl⟩
      have HS := Lib.hid (show KC W R w1.heap.size (clTo l i) cs wb from by
        have hb : Below w1.heap.size w1 wb := by rw [← hwb]; exact (Below.refl _ _).alloc (Nat.le_refl _) _
        exact ⟨(hb.block _ (g_lt HK1.out)).trans HK1.out, by rw [← hwb]; exact heap_alloc_new _ _, HB1.out.trans (hb.mono (Nat.le_of_lt (g_lt HK1.out))), g_lt HK1.out⟩)
      have HWB := Lib.hid hwb
      obtain ⟨s, hs⟩ : ∃ s, aget z4 (clTo l i) x.who = s := ⟨_, rfl⟩
      have HSO := Lib.hid (show s.ok ∧ 0 ≤ s.g by rw [← hs, clTo_get l OK.out i HI.out]; exact whoL_ok (OK.out.take i) _)
      have LOOK := Lib.hid (fun (u : World) (hu : KC W R w1.heap.size (clTo l i) cs u) => (show (Instr.lookup 31 (.map (some R)) (.int .i64 x.who) false).run Try.prog u = .ok (.agg #[.int .i64 s.c, .int .i64 s.e, .int .i64 s.d, .int .i64 s.g]) u from by
        have := (am_look Try.underlying31 AMI.out ldE z4 zero_ld XW.out u R hu.1).1
        rw [hs] at this
        exact this))
      have UPD := Lib.hid (fun (u : World) (hu : KC W R w1.heap.size (clTo l i) cs u) => (show (Instr.mapUpdate 31 (.map (some R)) (.int .i64 x.who) (.agg #[.int .i64 (lsum [s, oneN x]).c, .int .i64 (lsum [s, oneN x]).e, .int .i64 (lsum [s, oneN x]).d, .int .i64 (lsum [s, oneN x]).g])).run Try.prog u = .ok () (setBlock u R (gMap (aMap ldE (clTo l (i + 1))))) from by
        have := (am_look Try.underlying31 AMI.out ldE z4 zero_ld XW.out u R hu.1).2 (lsum [s, oneN x])
        rw [SC.out, clS, hs]
        exact this))
      clear hc hv hx hxm hs
      go_upto_region 5 with (first | refine wpl_op rfl _ rfl _ _ rfl HV.out.n LD.out ?_ | refine wpl_new rfl _ _ rfl rfl rfl HV.out.n HV.out.o rfl HWB.out ?_)
      refine region_gate (KC W R w1.heap.size (clTo l i) cs) 13 (by kernel_rfl) HS.out.drew (fun hHeld => ?_)
      refine gate_takeF (i := 0) (v := ?v1) rfl (by kernel_rfl) (by kernel_rfl) (by kernel_rfl) (by kernel_rfl) (fun _ _ _ h => h) (Or.inl ⟨by rfl, ?hy1⟩) (by assumption) ?rest1
      case hy1 => intro w hSw; clear hSw; go_simp; (first | done | with_reducible rfl)
      (try simp only [Act.put, List.getElem_toArray, List.getElem_cons_zero, List.getElem_cons_succ, List.setIfInBounds_toArray, List.set_cons_zero, List.set_cons_succ])
      refine gate_takeF (i := 1) (v := ?v2) rfl (by kernel_rfl) (by kernel_rfl) (by kernel_rfl) (by kernel_rfl) (fun _ _ _ h => h) (Or.inl ⟨by rfl, ?hy2⟩) (by assumption) ?rest2
      case hy2 => intro w hSw; clear hSw; go_simp; (first | done | with_reducible rfl)
      (try simp only [Act.put, List.getElem_toArray, List.getElem_cons_zero, List.getElem_cons_succ, List.setIfInBounds_toArray, List.set_cons_zero, List.set_cons_succ])
      refine gate_takeF (i := 2) (v := ?v3) rfl (by kernel_rfl) (by kernel_rfl) (by kernel_rfl) (by kernel_rfl) (fun _ _ _ h => h) (Or.inl ⟨by rfl, ?hy3⟩) (by assumption) ?rest3
      case hy3 => intro w hSw; clear hSw; go_simp; (first | done | with_reducible rfl)
      (try simp only [Act.put, List.getElem_toArray, List.getElem_cons_zero, List.getElem_cons_succ, List.setIfInBounds_toArray, List.set_cons_zero, List.set_cons_succ])
      refine gate_take (i := 3) (v := .int .i64 x.who) rfl (by kernel_rfl) (by kernel_rfl) (by kernel_rfl) (by kernel_rfl) (by kernel_rfl) (fun _ _ _ h => h) (Or.inl ⟨by kernel_rfl, ?hy4⟩) (by assumption) ?rest4
      case hy4 => intro w hSw; have hcl := KC.who hSw HV.out.hw; go_simp; (first | done | with_reducible rfl)
      (try simp only [Act.put, List.getElem_toArray, List.getElem_cons_zero, List.getElem_cons_succ, List.setIfInBounds_toArray, List.set_cons_zero, List.set_cons_succ])
      refine gate_takeF (i := 4) (v := ?v5) rfl (by kernel_rfl) (by kernel_rfl) (by kernel_rfl) (by kernel_rfl) (fun _ _ _ h => h) (Or.inl ⟨by rfl, ?hy5⟩) (by assumption) ?rest5
      case hy5 => intro w hSw; clear hSw; go_simp; (first | done | with_reducible rfl)
      (try simp only [Act.put, List.getElem_toArray, List.getElem_cons_zero, List.getElem_cons_succ, List.setIfInBounds_toArray, List.set_cons_zero, List.set_cons_succ])
      refine gate_takeF (i := 5) (v := ?v6) rfl (by kernel_rfl) (by kernel_rfl) (by kernel_rfl) (by kernel_rfl) (fun _ _ _ h => h) (Or.inl ⟨by rfl, ?hy6⟩) (by assumption) ?rest6
      case hy6 => intro w hSw; clear hSw; go_simp; (first | done | with_reducible rfl)
      (try simp only [Act.put, List.getElem_toArray, List.getElem_cons_zero, List.getElem_cons_succ, List.setIfInBounds_toArray, List.set_cons_zero, List.set_cons_succ])
      refine gate_takeF (i := 6) (v := ?v7) rfl (by kernel_rfl) (by kernel_rfl) (by kernel_rfl) (by kernel_rfl) (fun _ _ _ h => h) (Or.inl ⟨by rfl, ?hy7⟩) (by assumption) ?rest7
      case hy7 => intro w hSw; clear hSw; go_simp; (first | done | with_reducible rfl)
      (try simp only [Act.put, List.getElem_toArray, List.getElem_cons_zero, List.getElem_cons_succ, List.setIfInBounds_toArray, List.set_cons_zero, List.set_cons_succ])
      refine gate_take (i := 7) (v := .int .i64 x.who) rfl (by kernel_rfl) (by kernel_rfl) (by kernel_rfl) (by kernel_rfl) (by kernel_rfl) (fun _ _ _ h => h) (Or.inl ⟨by kernel_rfl, ?hy8⟩) (by assumption) ?rest8
      case hy8 => intro w hSw; have hcl := KC.who hSw HV.out.hw; go_simp; (first | done | with_reducible rfl)
      (try simp only [Act.put, List.getElem_toArray, List.getElem_cons_zero, List.getElem_cons_succ, List.setIfInBounds_toArray, List.set_cons_zero, List.set_cons_succ])
      refine gate_take (i := 8) (v := .agg #[.int .i64 s.c, .int .i64 s.e, .int .i64 s.d, .int .i64 s.g]) rfl (by kernel_rfl) (by kernel_rfl) (by kernel_rfl) (by kernel_rfl) (by kernel_rfl) (fun _ _ _ h => h) (Or.inl ⟨by kernel_rfl, ?hy9⟩) (by assumption) ?rest9
      case hy9 => intro w hSw; have hcl := LOOK.out w hSw; go_simp; (first | done | with_reducible rfl)
      (try simp only [Act.put, List.getElem_toArray, List.getElem_cons_zero, List.getElem_cons_succ, List.setIfInBounds_toArray, List.set_cons_zero, List.set_cons_succ])
      refine gate_take (i := 9) (v := .agg cs) rfl (by kernel_rfl) (by kernel_rfl) (by kernel_rfl) (by kernel_rfl) (by kernel_rfl) (fun _ _ _ h => h) (yieldsIf_load_mid (by kernel_rfl) 51 _ rfl w1.heap.size 0 rfl cs.toList _ (fun w h => h.op) Try.underlying51 rfl (by rw [Array.length_toList, HV.out.n]; exact op_size)) (by assumption) ?_
      (try simp only [Act.put, List.getElem_toArray, List.getElem_cons_zero, List.getElem_cons_succ, List.setIfInBounds_toArray, List.set_cons_zero, List.set_cons_succ])
      refine gate_one (i := 10) rfl (by kernel_rfl) (fun K hK => ?_)
      go_simp
      refine (CO.out _).mono ?_
      rintro e w' ⟨rfl, hb⟩
      (try go_wp2_with fail)
      refine hK.out _ _ (hHeld.below hb) (fun hHeld2 => ?_)
      clear hK K hHeld
      have hHeld := hHeld2
      clear hHeld2
      (try simp only [Act.put, List.getElem_toArray, List.getElem_cons_zero, List.getElem_cons_succ, List.setIfInBounds_toArray, List.set_cons_zero, List.set_cons_succ])
      refine gate_one (i := 11) rfl (by kernel_rfl) (fun K hK => ?_)
      go_simp
      refine hK.out _ _ (hHeld.below ((Below.refl _ _).alloc (Nat.le_refl _) _)) (fun hHeld2 => ?_)
      clear hK K hHeld
      have hHeld := hHeld2
      clear hHeld2
      (try simp only [Act.put, List.getElem_toArray, List.getElem_cons_zero, List.getElem_cons_succ, List.setIfInBounds_toArray, List.set_cons_zero, List.set_cons_succ])
      refine gate_one (i := 12) rfl (by kernel_rfl) (fun K hK => ?_)
      go_simp
      refine (l_sum _ [s, oneN x] _ (row_two HSO.out.1 (oneN_ok x ⟨XOK.out.1, XOK.out.2⟩).1 (heap_alloc_new _ _)) (by simp)).mono ?_
      rintro e w' ⟨rfl, hb⟩
      (try go_wp2_with fail)
      refine hK.out _ _ (hHeld.below hb) (fun hHeld2 => ?_)
      clear hK K hHeld
      have hHeld := hHeld2
      clear hHeld2
      (try simp only [Act.put, List.getElem_toArray, List.getElem_cons_zero, List.getElem_cons_succ, List.setIfInBounds_toArray, List.set_cons_zero, List.set_cons_succ])
      have hup := UPD.out _ hHeld
      refine gate_past (i := 13) rfl (by kernel_rfl) (by kernel_rfl) (fun K hK => ?_)
      go_simp
      refine hK.out _ _ ?_
      clear hK K hup
      (try simp only [Act.put, List.getElem_toArray, List.getElem_cons_zero, List.getElem_cons_succ, List.setIfInBounds_toArray, List.set_cons_zero, List.set_cons_succ])
      refine gate_done (by kernel_rfl) ?_ _
      have HK9 := Lib.hid (show (setBlock w' R (gMap (aMap ldE (clTo l (i + 1))))).heap[R]? = _ from gs_at (g_lt hHeld.1))
      have HB9 := Lib.hid (hHeld.2.2.1.trans (gs_below (w := w') (b := R) (o := gMap (aMap ldE (clTo l (i + 1)))) (Nat.le_refl R)))
      generalize setBlock w' R (gMap (aMap ldE (clTo l (i + 1)))) = w9 at HK9 HB9 ⊢
      clear hHeld
      go_wp2_with fail
      go_roundw
      case rel => exact ⟨i + 1, by rw [WR.out], Lib.hid hi, HK9, HB9⟩
      case measure => simp [WR.out]; omega
    · have h9 : i = l.length := by have := HI.out; omega
      subst h9
      have hi : ¬ l.length < l.length := by omega
      go_wp2_with fail
      go_ret
      exact ⟨R, rfl, HK1.out, by omega, by rw [hRs]; exact HB1.out⟩
end Go.Proofs.Ytfilbdmenlhoiaa
