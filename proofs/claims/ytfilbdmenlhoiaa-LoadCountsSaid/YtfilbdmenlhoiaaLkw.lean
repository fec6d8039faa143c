/- LoadCounts: load.Kinds. By program (genlkw.py). -/
import Derived.Test.YtfilbdmenlhoiaaLkn
namespace Go.Proofs.Ytfilbdmenlhoiaa
open Go.ChangeShapes Go.WideShapes Go.ChangeAt Go.RowKit
set_option linter.unusedVariables false
set_option linter.unusedSimpArgs false
theorem there_below {w w' : World} {R B n : Nat} (h : w.there R 0 n) (hR : R < B) (hb : Below B w w') : w'.there R 0 n := fun j hj => by
  have := h j hj
  refine ⟨by rw [hb.cell hR]; exact this.1, ?_⟩
  have h2 := this.2
  unfold World.frozen? at h2 ⊢
  rw [hb.block R hR]; exact h2
def KS (W : World) (R b : Nat) (L : List Ld) (cs : Array Value) (w : World) : Prop := LK w (R + 1) L ∧ w.heap[b]? = some (.cells cs 51 (0, 0)) ∧ Below R W w ∧ R + 1 < b ∧ w.there R 0 32
theorem KS.below {W w w' : World} {R b : Nat} {L : List Ld} {cs : Array Value} (h : KS W R b L cs w) (hb : Below w.heap.size w w') : KS W R b L cs w' :=
  ⟨h.1.below h.1.s hb, (hb.block _ (g_lt h.2.1)).trans h.2.1, h.2.2.1.trans (hb.mono (by have := g_lt h.2.1; have := h.2.2.2.1; omega)), h.2.2.2.1, there_below h.2.2.2.2 (by have := g_lt h.2.1; have := h.2.2.2.1; omega) hb⟩
theorem KS.drew {W w : World} {R b : Nat} {L : List Ld} {cs : Array Value} (h : KS W R b L cs w) : KS W R b L cs w.drew := h.below ((Below.refl _ _).drew)
theorem KS.op {W w : World} {R b : Nat} {L : List Ld} {cs : Array Value} (h : KS W R b L cs w) : w.rangeAt b 0 cs.toList := fun j v hj => by rw [Nat.zero_add, cell_of_row _ _ _ _ _ _ h.2.1]; simpa using hj
theorem arr_size : (Try.prog.info? 29).map (·.size) = some 32 := by kernel_rfl
theorem res_mid {P : Program} {fn : Func} {p : Tmp} {ty : TypeId} (h : fn.results = #[.cell p ty]) (tmps : Array Value) (w : World) (g : Nat) (cs : List Value) (d : TypeDesc)
    (hp : tmps.getD p undef = .pointer (some ⟨g, 0, none⟩)) (hg : w.rangeAt g 0 cs) (hu : P.underlying ty = some d) (hd : d.isRow = true) (hi : (P.info? ty).map (·.size) = some cs.length) :
    (results fn tmps).run P w = .ok (.agg cs.toArray) w := by
  have e : tmps[p]?.getD undef = .pointer (some ⟨g, 0, none⟩) := by simpa using hp
  simp [results, h, e, asAddr, run_loadVar_mid w g 0 ty cs d hg hu hd hi]
def flatL (L : List Ld) : List Value := (L.map (fun x => x.cs.toList)).flatten
theorem flatL_len : ∀ (L : List Ld), (flatL L).length = 4 * L.length
  | [] => rfl
  | x :: L => by
    have := flatL_len L
    unfold flatL at this ⊢
    rw [List.map_cons, List.flatten_cons, List.length_append, this, List.length_cons]
    simp [Ld.cs]; omega
theorem flatL_one (L : List Ld) : (flatL L).toArray.all (·.oneCell') = true := by
  refine all_oneCell_toArray fun v hv => ?_
  unfold flatL at hv
  obtain ⟨l, hl, h2⟩ := List.mem_flatten.1 hv
  obtain ⟨x, _, rfl⟩ := List.mem_map.1 hl
  simp [Ld.cs] at h2
  rcases h2 with rfl | rfl | rfl | rfl <;> rfl
set_option maxRecDepth 100000 in
set_option maxHeartbeats 16000000 in
theorem l_kinds (v : Value) (l : List Oi) (lim : Nat) (W : World) (hR : RowO W lim v l) (hlim : lim ≤ W.heap.size) (hn : l.length ≤ 10000) (hok : okO l) :
    Calls Try.prog 8 #[v] W fun e w' => e = .returned (.agg (flatL (kindsL l)).toArray) ∧ Below W.heap.size W w' := by
  have HR := Lib.hid hR
  obtain ⟨p, c, rfl, -⟩ := hR
  have HN := Lib.hid hn
  have HL := Lib.hid hlim
  have OK := Lib.hid hok
  clear hn hlim hok
  obtain ⟨R, hRs⟩ : ∃ R, W.heap.size = R := ⟨_, rfl⟩
  obtain ⟨w0, hw0⟩ : ∃ w0, (W.alloc (.cells #[.int .i64 0, .int .i64 0, .int .i64 0, .int .i64 0, .int .i64 0, .int .i64 0, .int .i64 0, .int .i64 0, .int .i64 0, .int .i64 0, .int .i64 0, .int .i64 0, .int .i64 0, .int .i64 0, .int .i64 0, .int .i64 0, .int .i64 0, .int .i64 0, .int .i64 0, .int .i64 0, .int .i64 0, .int .i64 0, .int .i64 0, .int .i64 0, .int .i64 0, .int .i64 0, .int .i64 0, .int .i64 0, .int .i64 0, .int .i64 0, .int .i64 0, .int .i64 0] 29)).alloc (.cells #[.int .i64 0, .int .i64 0, .int .i64 0, .int .i64 0, .int .i64 0, .int .i64 0, .int .i64 0, .int .i64 0, .int .i64 0, .int .i64 0, .int .i64 0, .int .i64 0, .int .i64 0, .int .i64 0, .int .i64 0, .int .i64 0, .int .i64 0, .int .i64 0, .int .i64 0, .int .i64 0, .int .i64 0, .int .i64 0, .int .i64 0, .int .i64 0, .int .i64 0, .int .i64 0, .int .i64 0, .int .i64 0, .int .i64 0, .int .i64 0, .int .i64 0, .int .i64 0] 29) = w0 := ⟨_, rfl⟩
  have H0 := Lib.hid (show LK w0 (R + 1) (kindsL []) ∧ w0.there R 0 32 ∧ Below R W w0 from by
    subst hRs
    have h1 := heap_alloc_new W (.cells #[.int .i64 0, .int .i64 0, .int .i64 0, .int .i64 0, .int .i64 0, .int .i64 0, .int .i64 0, .int .i64 0, .int .i64 0, .int .i64 0, .int .i64 0, .int .i64 0, .int .i64 0, .int .i64 0, .int .i64 0, .int .i64 0, .int .i64 0, .int .i64 0, .int .i64 0, .int .i64 0, .int .i64 0, .int .i64 0, .int .i64 0, .int .i64 0, .int .i64 0, .int .i64 0, .int .i64 0, .int .i64 0, .int .i64 0, .int .i64 0, .int .i64 0, .int .i64 0] 29)
    have h2 := heap_alloc_new (W.alloc (.cells #[.int .i64 0, .int .i64 0, .int .i64 0, .int .i64 0, .int .i64 0, .int .i64 0, .int .i64 0, .int .i64 0, .int .i64 0, .int .i64 0, .int .i64 0, .int .i64 0, .int .i64 0, .int .i64 0, .int .i64 0, .int .i64 0, .int .i64 0, .int .i64 0, .int .i64 0, .int .i64 0, .int .i64 0, .int .i64 0, .int .i64 0, .int .i64 0, .int .i64 0, .int .i64 0, .int .i64 0, .int .i64 0, .int .i64 0, .int .i64 0, .int .i64 0, .int .i64 0] 29)) (.cells #[.int .i64 0, .int .i64 0, .int .i64 0, .int .i64 0, .int .i64 0, .int .i64 0, .int .i64 0, .int .i64 0, .int .i64 0, .int .i64 0, .int .i64 0, .int .i64 0, .int .i64 0, .int .i64 0, .int .i64 0, .int .i64 0, .int .i64 0, .int .i64 0, .int .i64 0, .int .i64 0, .int .i64 0, .int .i64 0, .int .i64 0, .int .i64 0, .int .i64 0, .int .i64 0, .int .i64 0, .int .i64 0, .int .i64 0, .int .i64 0, .int .i64 0, .int .i64 0] 29)
    rw [World.size_alloc, hw0] at h2
    have h3 : w0.heap[W.heap.size]? = some (.cells #[.int .i64 0, .int .i64 0, .int .i64 0, .int .i64 0, .int .i64 0, .int .i64 0, .int .i64 0, .int .i64 0, .int .i64 0, .int .i64 0, .int .i64 0, .int .i64 0, .int .i64 0, .int .i64 0, .int .i64 0, .int .i64 0, .int .i64 0, .int .i64 0, .int .i64 0, .int .i64 0, .int .i64 0, .int .i64 0, .int .i64 0, .int .i64 0, .int .i64 0, .int .i64 0, .int .i64 0, .int .i64 0, .int .i64 0, .int .i64 0, .int .i64 0, .int .i64 0] 29 (0, 0)) := by
      rw [← hw0]
      exact (((Below.refl _ _).alloc (Nat.le_refl _) _ : Below (W.alloc (.cells #[.int .i64 0, .int .i64 0, .int .i64 0, .int .i64 0, .int .i64 0, .int .i64 0, .int .i64 0, .int .i64 0, .int .i64 0, .int .i64 0, .int .i64 0, .int .i64 0, .int .i64 0, .int .i64 0, .int .i64 0, .int .i64 0, .int .i64 0, .int .i64 0, .int .i64 0, .int .i64 0, .int .i64 0, .int .i64 0, .int .i64 0, .int .i64 0, .int .i64 0, .int .i64 0, .int .i64 0, .int .i64 0, .int .i64 0, .int .i64 0, .int .i64 0, .int .i64 0] 29)).heap.size (W.alloc (.cells #[.int .i64 0, .int .i64 0, .int .i64 0, .int .i64 0, .int .i64 0, .int .i64 0, .int .i64 0, .int .i64 0, .int .i64 0, .int .i64 0, .int .i64 0, .int .i64 0, .int .i64 0, .int .i64 0, .int .i64 0, .int .i64 0, .int .i64 0, .int .i64 0, .int .i64 0, .int .i64 0, .int .i64 0, .int .i64 0, .int .i64 0, .int .i64 0, .int .i64 0, .int .i64 0, .int .i64 0, .int .i64 0, .int .i64 0, .int .i64 0, .int .i64 0, .int .i64 0] 29)) _).block _ (by simp)).trans h1
    have th : ∀ b, w0.heap[b]? = some (.cells #[.int .i64 0, .int .i64 0, .int .i64 0, .int .i64 0, .int .i64 0, .int .i64 0, .int .i64 0, .int .i64 0, .int .i64 0, .int .i64 0, .int .i64 0, .int .i64 0, .int .i64 0, .int .i64 0, .int .i64 0, .int .i64 0, .int .i64 0, .int .i64 0, .int .i64 0, .int .i64 0, .int .i64 0, .int .i64 0, .int .i64 0, .int .i64 0, .int .i64 0, .int .i64 0, .int .i64 0, .int .i64 0, .int .i64 0, .int .i64 0, .int .i64 0, .int .i64 0] 29 (0, 0)) → w0.there b 0 32 := fun b hb j hj => by
      refine ⟨?_, frozen_of_row _ _ _ _ _ hb⟩
      rw [cell_of_row _ _ _ _ _ _ hb, Nat.zero_add]
      have : j < (#[.int .i64 0, .int .i64 0, .int .i64 0, .int .i64 0, .int .i64 0, .int .i64 0, .int .i64 0, .int .i64 0, .int .i64 0, .int .i64 0, .int .i64 0, .int .i64 0, .int .i64 0, .int .i64 0, .int .i64 0, .int .i64 0, .int .i64 0, .int .i64 0, .int .i64 0, .int .i64 0, .int .i64 0, .int .i64 0, .int .i64 0, .int .i64 0, .int .i64 0, .int .i64 0, .int .i64 0, .int .i64 0, .int .i64 0, .int .i64 0, .int .i64 0, .int .i64 0] : Array Value).size := hj
      rw [Array.getElem?_eq_getElem this]; rfl
    refine ⟨⟨kindsL_len [], g_lt h2, fun k x hx j v hv => ?_, th _ h2⟩, th _ h3, by rw [← hw0]; exact ((Below.refl _ _).alloc (Nat.le_refl _) _).alloc (by simp) _⟩
    rw [kindsL_nil] at hx
    have hk : k < 8 := by have := (List.getElem?_eq_some_iff.1 hx).1; simpa using this
    rw [List.getElem?_replicate, if_pos hk] at hx
    obtain rfl : (⟨0, 0, 0, 0⟩ : Ld) = x := by simpa using hx
    rw [cell_of_row _ _ _ _ _ _ h2]
    have hj : j < 4 := by have := (List.getElem?_eq_some_iff.1 hv).1; simpa [Ld.cs] using this
    have : ∀ k, k < 8 → ∀ j, j < 4 → (#[.int .i64 0, .int .i64 0, .int .i64 0, .int .i64 0, .int .i64 0, .int .i64 0, .int .i64 0, .int .i64 0, .int .i64 0, .int .i64 0, .int .i64 0, .int .i64 0, .int .i64 0, .int .i64 0, .int .i64 0, .int .i64 0, .int .i64 0, .int .i64 0, .int .i64 0, .int .i64 0, .int .i64 0, .int .i64 0, .int .i64 0, .int .i64 0, .int .i64 0, .int .i64 0, .int .i64 0, .int .i64 0, .int .i64 0, .int .i64 0, .int .i64 0, .int .i64 0] : Array Value)[k * 4 + j]? = (Ld.cs ⟨0, 0, 0, 0⟩).toList[j]? := fun k hk j hj => by
      have hk' : k = 0 ∨ k = 1 ∨ k = 2 ∨ k = 3 ∨ k = 4 ∨ k = 5 ∨ k = 6 ∨ k = 7 := by omega
      have hj' : j = 0 ∨ j = 1 ∨ j = 2 ∨ j = 3 := by omega
      rcases hk' with rfl | rfl | rfl | rfl | rfl | rfl | rfl | rfl <;> rcases hj' with rfl | rfl | rfl | rfl <;> rfl
    rw [this k hk j hj]; exact hv)
  have HW := Lib.hid hw0
  clear hw0
  go_enter Try.func8, Try.ntmps8
  go_wp2_with fail
  go_loopw [9] (fun x wr => ∃ (i : Nat), x = .int .i64 i ∧ Hid (i ≤ l.length) ∧ Hid (LK wr (R + 1) (kindsL (l.take i))) ∧ Hid (wr.there R 0 32) ∧ Hid (Below R W wr)) (fun x _ => l.length - (match x with | .int _ n => n.toNat | _ => 0))
  case atStart =>
    rw [HW.out]
    exact ⟨0, rfl, Lib.hid (Nat.zero_le _), Lib.hid H0.out.1, Lib.hid H0.out.2.1, Lib.hid H0.out.2.2⟩
  case round =>
    obtain ⟨i, rfl, HI, HK1, HT1, HB1⟩ := hrel
    obtain ⟨w1, rfl⟩ : ∃ w, w = wr := ⟨_, rfl⟩
    by_cases hi : i < l.length
    · obtain ⟨x, hx⟩ : ∃ x, l[i]? = some x := ⟨_, List.getElem?_eq_getElem hi⟩
      obtain ⟨b, o, cs, rfl, hbl, hv, hc⟩ := (HR.out.below (by rw [← hRs] at HB1; exact HB1.out.mono HL.out)).get hx
      have hbl2 : b < w1.heap.size := by have := HL.out; have := HB1.out.size; omega
      have LD := Lib.hid (ops_load hc)
      have HV := Lib.hid hv
      have CO := Lib.hid (fun u => l_of cs x hv u)
      have WR := Lib.hid (show wrap64 ((i : Int) + 1) = ((i + 1 : Nat) : Int) by have := HN.out; simp only [wrap64]; omega)
      have XOK := Lib.hid (OK.out x (List.mem_of_getElem? hx))
      obtain ⟨wb, hwb⟩ : ∃ wb, w1.alloc (.cells cs 51) = wb := ⟨_, rfl⟩
      have HS := Lib.hid (show KS W R w1.heap.size (kindsL (l.take i)) cs wb from by
        have hb : Below w1.heap.size w1 wb := by rw [← hwb]; exact (Below.refl _ _).alloc (Nat.le_refl _) _
        refine ⟨HK1.out.below HK1.out.s hb, by rw [← hwb]; exact heap_alloc_new _ _, HB1.out.trans (hb.mono (by have := HK1.out.s; omega)), HK1.out.s, there_below HT1.out (by have := HK1.out.s; omega) hb⟩)
      have c2 := op_new (w := w1) (T := 51) hv.hk
      rw [hwb] at c2
      have HWB := Lib.hid hwb
      have hx1 := hx
      clear hc hv
      have HX := Lib.hid hx1
      clear hx1 hx
      by_cases h1 : x.kind < 1
      · skip
        have HQ8 := Lib.hid (show 0 < 8 by omega)
        have HKQ := Lib.hid (show kf x = ((0 : Nat) : Int) by unfold kf; rw [if_pos (.inl h1)]; rfl)
        obtain ⟨s, hs⟩ : ∃ s, kindL (l.take i) 0 = s := ⟨_, rfl⟩
        have HSG := Lib.hid (show (kindsL (l.take i))[0]? = some s by rw [kindsL_get _ HQ8.out, hs])
        have HSO := Lib.hid (show s.ok ∧ 0 ≤ s.g by rw [← hs]; exact kindL_ok (OK.out.take i) 0)
        have HSS := Lib.hid hs
        clear hs
        go_upto_region 8 with (first | refine wpl_op rfl _ rfl _ _ rfl HV.out.n LD.out ?_ | refine wpl_new rfl _ _ rfl rfl rfl HV.out.n HV.out.o rfl HWB.out ?_)
        refine region_gate (KS W R w1.heap.size (kindsL (l.take i)) cs) 9 (by kernel_rfl) HS.out.drew (fun hHeld => ?_)
        refine gate_takeF (i := 0) (v := ?v1) rfl (by kernel_rfl) (by kernel_rfl) (by kernel_rfl) (by kernel_rfl) (fun _ _ _ h => h) (Or.inl ⟨by rfl, ?hy1⟩) (by assumption) ?rest1
        case hy1 => intro w hSw; clear hSw; go_simp; (first | done | with_reducible rfl)
        (try simp only [Act.put, List.getElem_toArray, List.getElem_cons_zero, List.getElem_cons_succ, List.setIfInBounds_toArray, List.set_cons_zero, List.set_cons_succ])
        refine gate_takeF (i := 1) (v := ?v2) rfl (by kernel_rfl) (by kernel_rfl) (by kernel_rfl) (by kernel_rfl) (fun _ _ _ h => h) (Or.inl ⟨by rfl, ?hy2⟩) (by assumption) ?rest2
        case hy2 => intro w hSw; clear hSw; go_simp; (first | done | with_reducible rfl)
        (try simp only [Act.put, List.getElem_toArray, List.getElem_cons_zero, List.getElem_cons_succ, List.setIfInBounds_toArray, List.set_cons_zero, List.set_cons_succ])
        refine gate_takeF (i := 2) (v := ?v3) rfl (by kernel_rfl) (by kernel_rfl) (by kernel_rfl) (by kernel_rfl) (fun _ _ _ h => h) (Or.inl ⟨by rfl, ?hy3⟩) (by assumption) ?rest3
        case hy3 => intro w hSw; clear hSw; go_simp; (first | done | with_reducible rfl)
        (try simp only [Act.put, List.getElem_toArray, List.getElem_cons_zero, List.getElem_cons_succ, List.setIfInBounds_toArray, List.set_cons_zero, List.set_cons_succ])
        refine gate_take (i := 3) (v := .agg #[.int .i64 s.c, .int .i64 s.e, .int .i64 s.d, .int .i64 s.g]) rfl (by kernel_rfl) (by kernel_rfl) (by kernel_rfl) (by kernel_rfl) (by kernel_rfl) (fun _ _ _ h => h) (yieldsIf_load_mid (by kernel_rfl) 25 _ rfl (R + 1) (0 * 4) rfl [.int .i64 s.c, .int .i64 s.e, .int .i64 s.d, .int .i64 s.g] _ (fun w h => h.1.c _ _ HSG.out) Try.underlying25 rfl ld_size) (by assumption) ?_
        (try simp only [Act.put, List.getElem_toArray, List.getElem_cons_zero, List.getElem_cons_succ, List.setIfInBounds_toArray, List.set_cons_zero, List.set_cons_succ])
        refine gate_take (i := 4) (v := .agg cs) rfl (by kernel_rfl) (by kernel_rfl) (by kernel_rfl) (by kernel_rfl) (by kernel_rfl) (fun _ _ _ h => h) (yieldsIf_load_mid (by kernel_rfl) 51 _ rfl w1.heap.size 0 rfl cs.toList _ (fun w h => h.op) Try.underlying51 rfl (by rw [Array.length_toList, HV.out.n]; exact op_size)) (by assumption) ?_
        (try simp only [Act.put, List.getElem_toArray, List.getElem_cons_zero, List.getElem_cons_succ, List.setIfInBounds_toArray, List.set_cons_zero, List.set_cons_succ])
        refine gate_one (i := 5) rfl (by kernel_rfl) (fun K hK => ?_)
        go_simp
        refine (CO.out _).mono ?_
        rintro e w' ⟨rfl, hb⟩
        (try go_wp2_with fail)
        refine hK.out _ _ (hHeld.below hb) (fun hHeld2 => ?_)
        clear hK K hHeld
        have hHeld := hHeld2
        clear hHeld2
        (try simp only [Act.put, List.getElem_toArray, List.getElem_cons_zero, List.getElem_cons_succ, List.setIfInBounds_toArray, List.set_cons_zero, List.set_cons_succ])
        refine gate_one (i := 6) rfl (by kernel_rfl) (fun K hK => ?_)
        go_simp
        refine hK.out _ _ (hHeld.below ((Below.refl _ _).alloc (Nat.le_refl _) _)) (fun hHeld2 => ?_)
        clear hK K hHeld
        have hHeld := hHeld2
        clear hHeld2
        (try simp only [Act.put, List.getElem_toArray, List.getElem_cons_zero, List.getElem_cons_succ, List.setIfInBounds_toArray, List.set_cons_zero, List.set_cons_succ])
        refine gate_one (i := 7) rfl (by kernel_rfl) (fun K hK => ?_)
        go_simp
        refine (l_sum _ [s, oneN x] _ (row_two HSO.out.1 (oneN_ok x ⟨XOK.out.1, XOK.out.2⟩).1 (heap_alloc_new _ _)) (by simp)).mono ?_
        rintro e w' ⟨rfl, hb⟩
        (try go_wp2_with fail)
        refine hK.out _ _ (hHeld.below hb) (fun hHeld2 => ?_)
        clear hK K hHeld
        have hHeld := hHeld2
        clear hHeld2
        (try simp only [Act.put, List.getElem_toArray, List.getElem_cons_zero, List.getElem_cons_succ, List.setIfInBounds_toArray, List.set_cons_zero, List.set_cons_succ])
        refine gate_one (i := 8) rfl (by kernel_rfl) (fun K hK => ?_)
        go_simp
        refine hK.out _ _ hHeld (fun hHeld2 => ?_)
        clear hK K hHeld
        have hHeld := hHeld2
        clear hHeld2
        (try simp only [Act.put, List.getElem_toArray, List.getElem_cons_zero, List.getElem_cons_succ, List.setIfInBounds_toArray, List.set_cons_zero, List.set_cons_succ])
        refine gate_past (i := 9) rfl (by kernel_rfl) (by kernel_rfl) (fun K hK => ?_)
        refine step_plain rfl (wp_store_mid _ _ _ rfl (R + 1) (0 * 4) _ rfl rfl (hHeld.1.there4 HQ8.out) ld_size (by simp [Value.oneCell']) ?_)
        refine hK.out _ _ ?_
        clear hK K
        (try simp only [Act.put, List.getElem_toArray, List.getElem_cons_zero, List.getElem_cons_succ, List.setIfInBounds_toArray, List.set_cons_zero, List.set_cons_succ])
        refine gate_done (by kernel_rfl) ?_ _
        have HK9 := hHeld.1.set HQ8.out (lsum [s, oneN x])
        rw [show (kindsL (l.take i)).set 0 (lsum [s, oneN x]) = kindsL (l.take (i + 1)) by rw [← HSS.out]; exact kindsL_succ HX.out OK.out HKQ.out] at HK9
        have HT9 := World.there_setCells hHeld.2.2.2.2 (R + 1) (0 * 4) (lsum [s, oneN x]).cs.toList
        have HB9 := hHeld.2.2.1.trans (setCells_below (Nat.le_succ R) (lsum [s, oneN x]).cs.toList (0 * 4) w')
        change LK (w'.setCells (R + 1) (0 * 4) [.int .i64 (lsum [s, oneN x]).c, .int .i64 (lsum [s, oneN x]).e, .int .i64 (lsum [s, oneN x]).d, .int .i64 (lsum [s, oneN x]).g]) _ _ at HK9
        change World.there (w'.setCells (R + 1) (0 * 4) [.int .i64 (lsum [s, oneN x]).c, .int .i64 (lsum [s, oneN x]).e, .int .i64 (lsum [s, oneN x]).d, .int .i64 (lsum [s, oneN x]).g]) _ _ _ at HT9
        change Below _ _ (w'.setCells (R + 1) (0 * 4) [.int .i64 (lsum [s, oneN x]).c, .int .i64 (lsum [s, oneN x]).e, .int .i64 (lsum [s, oneN x]).d, .int .i64 (lsum [s, oneN x]).g]) at HB9
        generalize w'.setCells (R + 1) (0 * 4) [.int .i64 (lsum [s, oneN x]).c, .int .i64 (lsum [s, oneN x]).e, .int .i64 (lsum [s, oneN x]).d, .int .i64 (lsum [s, oneN x]).g] = w9 at HK9 HT9 HB9 ⊢
        have HK9 := Lib.hid HK9
        have HT9 := Lib.hid HT9
        have HB9 := Lib.hid HB9
        clear hHeld
        go_wp2_with fail
        go_roundw
        case rel =>
          refine ⟨i + 1, by rw [WR.out], Lib.hid hi, HK9, HT9, HB9⟩
        case measure => simp [WR.out]; omega
      · by_cases h7 : 7 < x.kind
        · skip
          have HQ8 := Lib.hid (show 0 < 8 by omega)
          have HKQ := Lib.hid (show kf x = ((0 : Nat) : Int) by unfold kf; rw [if_pos (.inr h7)]; rfl)
          obtain ⟨s, hs⟩ : ∃ s, kindL (l.take i) 0 = s := ⟨_, rfl⟩
          have HSG := Lib.hid (show (kindsL (l.take i))[0]? = some s by rw [kindsL_get _ HQ8.out, hs])
          have HSO := Lib.hid (show s.ok ∧ 0 ≤ s.g by rw [← hs]; exact kindL_ok (OK.out.take i) 0)
          have HSS := Lib.hid hs
          clear hs
          go_upto_region 8 with (first | refine wpl_op rfl _ rfl _ _ rfl HV.out.n LD.out ?_ | refine wpl_new rfl _ _ rfl rfl rfl HV.out.n HV.out.o rfl HWB.out ?_)
          refine region_gate (KS W R w1.heap.size (kindsL (l.take i)) cs) 9 (by kernel_rfl) HS.out.drew (fun hHeld => ?_)
          refine gate_takeF (i := 0) (v := ?v4) rfl (by kernel_rfl) (by kernel_rfl) (by kernel_rfl) (by kernel_rfl) (fun _ _ _ h => h) (Or.inl ⟨by rfl, ?hy4⟩) (by assumption) ?rest4
          case hy4 => intro w hSw; clear hSw; go_simp; (first | done | with_reducible rfl)
          (try simp only [Act.put, List.getElem_toArray, List.getElem_cons_zero, List.getElem_cons_succ, List.setIfInBounds_toArray, List.set_cons_zero, List.set_cons_succ])
          refine gate_takeF (i := 1) (v := ?v5) rfl (by kernel_rfl) (by kernel_rfl) (by kernel_rfl) (by kernel_rfl) (fun _ _ _ h => h) (Or.inl ⟨by rfl, ?hy5⟩) (by assumption) ?rest5
          case hy5 => intro w hSw; clear hSw; go_simp; (first | done | with_reducible rfl)
          (try simp only [Act.put, List.getElem_toArray, List.getElem_cons_zero, List.getElem_cons_succ, List.setIfInBounds_toArray, List.set_cons_zero, List.set_cons_succ])
          refine gate_takeF (i := 2) (v := ?v6) rfl (by kernel_rfl) (by kernel_rfl) (by kernel_rfl) (by kernel_rfl) (fun _ _ _ h => h) (Or.inl ⟨by rfl, ?hy6⟩) (by assumption) ?rest6
          case hy6 => intro w hSw; clear hSw; go_simp; (first | done | with_reducible rfl)
          (try simp only [Act.put, List.getElem_toArray, List.getElem_cons_zero, List.getElem_cons_succ, List.setIfInBounds_toArray, List.set_cons_zero, List.set_cons_succ])
          refine gate_take (i := 3) (v := .agg #[.int .i64 s.c, .int .i64 s.e, .int .i64 s.d, .int .i64 s.g]) rfl (by kernel_rfl) (by kernel_rfl) (by kernel_rfl) (by kernel_rfl) (by kernel_rfl) (fun _ _ _ h => h) (yieldsIf_load_mid (by kernel_rfl) 25 _ rfl (R + 1) (0 * 4) rfl [.int .i64 s.c, .int .i64 s.e, .int .i64 s.d, .int .i64 s.g] _ (fun w h => h.1.c _ _ HSG.out) Try.underlying25 rfl ld_size) (by assumption) ?_
          (try simp only [Act.put, List.getElem_toArray, List.getElem_cons_zero, List.getElem_cons_succ, List.setIfInBounds_toArray, List.set_cons_zero, List.set_cons_succ])
          refine gate_take (i := 4) (v := .agg cs) rfl (by kernel_rfl) (by kernel_rfl) (by kernel_rfl) (by kernel_rfl) (by kernel_rfl) (fun _ _ _ h => h) (yieldsIf_load_mid (by kernel_rfl) 51 _ rfl w1.heap.size 0 rfl cs.toList _ (fun w h => h.op) Try.underlying51 rfl (by rw [Array.length_toList, HV.out.n]; exact op_size)) (by assumption) ?_
          (try simp only [Act.put, List.getElem_toArray, List.getElem_cons_zero, List.getElem_cons_succ, List.setIfInBounds_toArray, List.set_cons_zero, List.set_cons_succ])
          refine gate_one (i := 5) rfl (by kernel_rfl) (fun K hK => ?_)
          go_simp
          refine (CO.out _).mono ?_
          rintro e w' ⟨rfl, hb⟩
          (try go_wp2_with fail)
          refine hK.out _ _ (hHeld.below hb) (fun hHeld2 => ?_)
          clear hK K hHeld
          have hHeld := hHeld2
          clear hHeld2
          (try simp only [Act.put, List.getElem_toArray, List.getElem_cons_zero, List.getElem_cons_succ, List.setIfInBounds_toArray, List.set_cons_zero, List.set_cons_succ])
          refine gate_one (i := 6) rfl (by kernel_rfl) (fun K hK => ?_)
          go_simp
          refine hK.out _ _ (hHeld.below ((Below.refl _ _).alloc (Nat.le_refl _) _)) (fun hHeld2 => ?_)
          clear hK K hHeld
          have hHeld := hHeld2
          clear hHeld2
          (try simp only [Act.put, List.getElem_toArray, List.getElem_cons_zero, List.getElem_cons_succ, List.setIfInBounds_toArray, List.set_cons_zero, List.set_cons_succ])
          refine gate_one (i := 7) rfl (by kernel_rfl) (fun K hK => ?_)
          go_simp
          refine (l_sum _ [s, oneN x] _ (row_two HSO.out.1 (oneN_ok x ⟨XOK.out.1, XOK.out.2⟩).1 (heap_alloc_new _ _)) (by simp)).mono ?_
          rintro e w' ⟨rfl, hb⟩
          (try go_wp2_with fail)
          refine hK.out _ _ (hHeld.below hb) (fun hHeld2 => ?_)
          clear hK K hHeld
          have hHeld := hHeld2
          clear hHeld2
          (try simp only [Act.put, List.getElem_toArray, List.getElem_cons_zero, List.getElem_cons_succ, List.setIfInBounds_toArray, List.set_cons_zero, List.set_cons_succ])
          refine gate_one (i := 8) rfl (by kernel_rfl) (fun K hK => ?_)
          go_simp
          refine hK.out _ _ hHeld (fun hHeld2 => ?_)
          clear hK K hHeld
          have hHeld := hHeld2
          clear hHeld2
          (try simp only [Act.put, List.getElem_toArray, List.getElem_cons_zero, List.getElem_cons_succ, List.setIfInBounds_toArray, List.set_cons_zero, List.set_cons_succ])
          refine gate_past (i := 9) rfl (by kernel_rfl) (by kernel_rfl) (fun K hK => ?_)
          refine step_plain rfl (wp_store_mid _ _ _ rfl (R + 1) (0 * 4) _ rfl rfl (hHeld.1.there4 HQ8.out) ld_size (by simp [Value.oneCell']) ?_)
          refine hK.out _ _ ?_
          clear hK K
          (try simp only [Act.put, List.getElem_toArray, List.getElem_cons_zero, List.getElem_cons_succ, List.setIfInBounds_toArray, List.set_cons_zero, List.set_cons_succ])
          refine gate_done (by kernel_rfl) ?_ _
          have HK9 := hHeld.1.set HQ8.out (lsum [s, oneN x])
          rw [show (kindsL (l.take i)).set 0 (lsum [s, oneN x]) = kindsL (l.take (i + 1)) by rw [← HSS.out]; exact kindsL_succ HX.out OK.out HKQ.out] at HK9
          have HT9 := World.there_setCells hHeld.2.2.2.2 (R + 1) (0 * 4) (lsum [s, oneN x]).cs.toList
          have HB9 := hHeld.2.2.1.trans (setCells_below (Nat.le_succ R) (lsum [s, oneN x]).cs.toList (0 * 4) w')
          change LK (w'.setCells (R + 1) (0 * 4) [.int .i64 (lsum [s, oneN x]).c, .int .i64 (lsum [s, oneN x]).e, .int .i64 (lsum [s, oneN x]).d, .int .i64 (lsum [s, oneN x]).g]) _ _ at HK9
          change World.there (w'.setCells (R + 1) (0 * 4) [.int .i64 (lsum [s, oneN x]).c, .int .i64 (lsum [s, oneN x]).e, .int .i64 (lsum [s, oneN x]).d, .int .i64 (lsum [s, oneN x]).g]) _ _ _ at HT9
          change Below _ _ (w'.setCells (R + 1) (0 * 4) [.int .i64 (lsum [s, oneN x]).c, .int .i64 (lsum [s, oneN x]).e, .int .i64 (lsum [s, oneN x]).d, .int .i64 (lsum [s, oneN x]).g]) at HB9
          generalize w'.setCells (R + 1) (0 * 4) [.int .i64 (lsum [s, oneN x]).c, .int .i64 (lsum [s, oneN x]).e, .int .i64 (lsum [s, oneN x]).d, .int .i64 (lsum [s, oneN x]).g] = w9 at HK9 HT9 HB9 ⊢
          have HK9 := Lib.hid HK9
          have HT9 := Lib.hid HT9
          have HB9 := Lib.hid HB9
          clear hHeld
          go_wp2_with fail
          go_roundw
          case rel =>
            refine ⟨i + 1, by rw [WR.out], Lib.hid hi, HK9, HT9, HB9⟩
          case measure => simp [WR.out]; omega
        · obtain ⟨q, hq⟩ : ∃ q : Nat, x.kind = (q : Int) := ⟨x.kind.toNat, by omega⟩
          rw [hq] at c2 h1 h7
          have HQ8 := Lib.hid (show q < 8 by omega)
          have HKQ := Lib.hid (show kf x = ((q : Nat) : Int) by unfold kf; rw [hq, if_neg (by omega)])
          have hq8 : (q : Int) < 8 := by omega
          have hq9 : q < 8 := by omega
          clear hq
          obtain ⟨s, hs⟩ : ∃ s, kindL (l.take i) q = s := ⟨_, rfl⟩
          have HSG := Lib.hid (show (kindsL (l.take i))[q]? = some s by rw [kindsL_get _ HQ8.out, hs])
          have HSO := Lib.hid (show s.ok ∧ 0 ≤ s.g by rw [← hs]; exact kindL_ok (OK.out.take i) q)
          have HSS := Lib.hid hs
          clear hs
          go_upto_region 8 with (first | refine wpl_op rfl _ rfl _ _ rfl HV.out.n LD.out ?_ | refine wpl_new rfl _ _ rfl rfl rfl HV.out.n HV.out.o rfl HWB.out ?_)
          refine region_gate (KS W R w1.heap.size (kindsL (l.take i)) cs) 9 (by kernel_rfl) HS.out.drew (fun hHeld => ?_)
          refine gate_takeF (i := 0) (v := ?v7) rfl (by kernel_rfl) (by kernel_rfl) (by kernel_rfl) (by kernel_rfl) (fun _ _ _ h => h) (Or.inl ⟨by rfl, ?hy7⟩) (by assumption) ?rest7
          case hy7 => intro w hSw; clear hSw; go_simp; (first | done | with_reducible rfl)
          (try simp only [Act.put, List.getElem_toArray, List.getElem_cons_zero, List.getElem_cons_succ, List.setIfInBounds_toArray, List.set_cons_zero, List.set_cons_succ])
          refine gate_takeF (i := 1) (v := ?v8) rfl (by kernel_rfl) (by kernel_rfl) (by kernel_rfl) (by kernel_rfl) (fun _ _ _ h => h) (Or.inl ⟨by rfl, ?hy8⟩) (by assumption) ?rest8
          case hy8 => intro w hSw; clear hSw; go_simp; (first | done | with_reducible rfl)
          (try simp only [Act.put, List.getElem_toArray, List.getElem_cons_zero, List.getElem_cons_succ, List.setIfInBounds_toArray, List.set_cons_zero, List.set_cons_succ])
          refine gate_takeF (i := 2) (v := ?v9) rfl (by kernel_rfl) (by kernel_rfl) (by kernel_rfl) (by kernel_rfl) (fun _ _ _ h => h) (Or.inl ⟨by rfl, ?hy9⟩) (by assumption) ?rest9
          case hy9 => intro w hSw; clear hSw; go_simp; (first | done | with_reducible rfl)
          (try simp only [Act.put, List.getElem_toArray, List.getElem_cons_zero, List.getElem_cons_succ, List.setIfInBounds_toArray, List.set_cons_zero, List.set_cons_succ])
          refine gate_take (i := 3) (v := .agg #[.int .i64 s.c, .int .i64 s.e, .int .i64 s.d, .int .i64 s.g]) rfl (by kernel_rfl) (by kernel_rfl) (by kernel_rfl) (by kernel_rfl) (by kernel_rfl) (fun _ _ _ h => h) (yieldsIf_load_mid (by kernel_rfl) 25 _ rfl (R + 1) (q * 4) rfl [.int .i64 s.c, .int .i64 s.e, .int .i64 s.d, .int .i64 s.g] _ (fun w h => h.1.c _ _ HSG.out) Try.underlying25 rfl ld_size) (by assumption) ?_
          (try simp only [Act.put, List.getElem_toArray, List.getElem_cons_zero, List.getElem_cons_succ, List.setIfInBounds_toArray, List.set_cons_zero, List.set_cons_succ])
          refine gate_take (i := 4) (v := .agg cs) rfl (by kernel_rfl) (by kernel_rfl) (by kernel_rfl) (by kernel_rfl) (by kernel_rfl) (fun _ _ _ h => h) (yieldsIf_load_mid (by kernel_rfl) 51 _ rfl w1.heap.size 0 rfl cs.toList _ (fun w h => h.op) Try.underlying51 rfl (by rw [Array.length_toList, HV.out.n]; exact op_size)) (by assumption) ?_
          (try simp only [Act.put, List.getElem_toArray, List.getElem_cons_zero, List.getElem_cons_succ, List.setIfInBounds_toArray, List.set_cons_zero, List.set_cons_succ])
          refine gate_one (i := 5) rfl (by kernel_rfl) (fun K hK => ?_)
          go_simp
          refine (CO.out _).mono ?_
          rintro e w' ⟨rfl, hb⟩
          (try go_wp2_with fail)
          refine hK.out _ _ (hHeld.below hb) (fun hHeld2 => ?_)
          clear hK K hHeld
          have hHeld := hHeld2
          clear hHeld2
          (try simp only [Act.put, List.getElem_toArray, List.getElem_cons_zero, List.getElem_cons_succ, List.setIfInBounds_toArray, List.set_cons_zero, List.set_cons_succ])
          refine gate_one (i := 6) rfl (by kernel_rfl) (fun K hK => ?_)
          go_simp
          refine hK.out _ _ (hHeld.below ((Below.refl _ _).alloc (Nat.le_refl _) _)) (fun hHeld2 => ?_)
          clear hK K hHeld
          have hHeld := hHeld2
          clear hHeld2
          (try simp only [Act.put, List.getElem_toArray, List.getElem_cons_zero, List.getElem_cons_succ, List.setIfInBounds_toArray, List.set_cons_zero, List.set_cons_succ])
          refine gate_one (i := 7) rfl (by kernel_rfl) (fun K hK => ?_)
          go_simp
          refine (l_sum _ [s, oneN x] _ (row_two HSO.out.1 (oneN_ok x ⟨XOK.out.1, XOK.out.2⟩).1 (heap_alloc_new _ _)) (by simp)).mono ?_
          rintro e w' ⟨rfl, hb⟩
          (try go_wp2_with fail)
          refine hK.out _ _ (hHeld.below hb) (fun hHeld2 => ?_)
          clear hK K hHeld
          have hHeld := hHeld2
          clear hHeld2
          (try simp only [Act.put, List.getElem_toArray, List.getElem_cons_zero, List.getElem_cons_succ, List.setIfInBounds_toArray, List.set_cons_zero, List.set_cons_succ])
          refine gate_one (i := 8) rfl (by kernel_rfl) (fun K hK => ?_)
          go_simp
          refine hK.out _ _ hHeld (fun hHeld2 => ?_)
          clear hK K hHeld
          have hHeld := hHeld2
          clear hHeld2
          (try simp only [Act.put, List.getElem_toArray, List.getElem_cons_zero, List.getElem_cons_succ, List.setIfInBounds_toArray, List.set_cons_zero, List.set_cons_succ])
          refine gate_past (i := 9) rfl (by kernel_rfl) (by kernel_rfl) (fun K hK => ?_)
          refine step_plain rfl (wp_store_mid _ _ _ rfl (R + 1) (q * 4) _ rfl rfl (hHeld.1.there4 HQ8.out) ld_size (by simp [Value.oneCell']) ?_)
          refine hK.out _ _ ?_
          clear hK K
          (try simp only [Act.put, List.getElem_toArray, List.getElem_cons_zero, List.getElem_cons_succ, List.setIfInBounds_toArray, List.set_cons_zero, List.set_cons_succ])
          refine gate_done (by kernel_rfl) ?_ _
          have HK9 := hHeld.1.set HQ8.out (lsum [s, oneN x])
          rw [show (kindsL (l.take i)).set q (lsum [s, oneN x]) = kindsL (l.take (i + 1)) by rw [← HSS.out]; exact kindsL_succ HX.out OK.out HKQ.out] at HK9
          have HT9 := World.there_setCells hHeld.2.2.2.2 (R + 1) (q * 4) (lsum [s, oneN x]).cs.toList
          have HB9 := hHeld.2.2.1.trans (setCells_below (Nat.le_succ R) (lsum [s, oneN x]).cs.toList (q * 4) w')
          change LK (w'.setCells (R + 1) (q * 4) [.int .i64 (lsum [s, oneN x]).c, .int .i64 (lsum [s, oneN x]).e, .int .i64 (lsum [s, oneN x]).d, .int .i64 (lsum [s, oneN x]).g]) _ _ at HK9
          change World.there (w'.setCells (R + 1) (q * 4) [.int .i64 (lsum [s, oneN x]).c, .int .i64 (lsum [s, oneN x]).e, .int .i64 (lsum [s, oneN x]).d, .int .i64 (lsum [s, oneN x]).g]) _ _ _ at HT9
          change Below _ _ (w'.setCells (R + 1) (q * 4) [.int .i64 (lsum [s, oneN x]).c, .int .i64 (lsum [s, oneN x]).e, .int .i64 (lsum [s, oneN x]).d, .int .i64 (lsum [s, oneN x]).g]) at HB9
          generalize w'.setCells (R + 1) (q * 4) [.int .i64 (lsum [s, oneN x]).c, .int .i64 (lsum [s, oneN x]).e, .int .i64 (lsum [s, oneN x]).d, .int .i64 (lsum [s, oneN x]).g] = w9 at HK9 HT9 HB9 ⊢
          have HK9 := Lib.hid HK9
          have HT9 := Lib.hid HT9
          have HB9 := Lib.hid HB9
          clear hHeld
          go_wp2_with fail
          go_roundw
          case rel =>
            refine ⟨i + 1, by rw [WR.out], Lib.hid hi, HK9, HT9, HB9⟩
          case measure => simp [WR.out]; omega
    · have h9 : i = l.length := by have := HI.out; omega
      subst h9
      have hi : ¬ l.length < l.length := by omega
      have HF := Lib.hid (show w1.rangeAt (R + 1) 0 (flatL (kindsL l)) from by have := HK1.out.flat; rw [List.take_length] at this; exact this)
      have HSZ := Lib.hid (show (Try.prog.info? 29).map (·.size) = some (flatL (kindsL l)).length by rw [flatL_len, kindsL_len]; exact arr_size)
      have HSZ2 := Lib.hid (show (Try.prog.info? 29).map (·.size) = some (flatL (kindsL l)).toArray.size by rw [List.size_toArray, flatL_len, kindsL_len]; exact arr_size)
      have HT := Lib.hid (show w1.there R 0 (flatL (kindsL l)).toArray.size by rw [List.size_toArray, flatL_len, kindsL_len]; exact HT1.out)
      have HON := Lib.hid (flatL_one (kindsL l))
      have HB9 := Lib.hid (HB1.out.trans (setCells_below (Nat.le_refl R) (flatL (kindsL l)).toArray.toList 0 w1))
      have HR9 := Lib.hid (World.rangeAt_setCells_same w1 R 0 (flatL (kindsL l)).toArray.toList (by have := HT.out; simpa using this))
      obtain ⟨fl, hfl⟩ : ∃ fl, fl = flatL (kindsL l) := ⟨_, rfl⟩
      rw [← hfl] at HF HSZ HSZ2 HT HON HB9 HR9
      have HFL := Lib.hid hfl
      clear hfl
      go_wp2_with (first | refine wpList_load_mid rfl _ _ rfl (R + 1) 0 rfl fl _ HF.out Try.underlying29 rfl HSZ.out ?_ | refine wpList_store_mid rfl _ _ _ rfl R 0 fl.toArray rfl rfl HT.out HSZ2.out HON.out ?_)
      refine bodyPost_ret (res_mid (p := 2) (ty := 29) rfl _ _ R fl _ rfl HR9.out Try.underlying29 rfl HSZ.out) rfl ?_
      exact ⟨by rw [HFL.out], by first | exact HB9.out | (rw [hRs]; exact HB9.out)⟩
end Go.Proofs.Ytfilbdmenlhoiaa
