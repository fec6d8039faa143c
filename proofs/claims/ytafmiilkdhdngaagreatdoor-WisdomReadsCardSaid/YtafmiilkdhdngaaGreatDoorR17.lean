/- Put together by program (merge2.py): Dta Dtq. -/
import Derived.Deep.DrawnRows
import Derived.Deep.RegionHeld
import Derived.BigRegion
import Derived.Deep.DeepCutAuto
import Derived.Test.YtafmiilkdhdngaaGreatDoorR16
/- dtext.add: a tree's text, byte by byte behind a row of bytes. (Written by gendta.py.) -/
namespace Go.Proofs.YtafmiilkdhdngaaGreatDoor
open Go.ChangeShapes Go.WideShapes Go.ChangeAt Go.RowKit
set_option linter.unusedVariables false
set_option linter.unusedSimpArgs false
attribute [local go_sem ↓] Go.wp_at_zero Go.wp_at_succ
theorem pow10_belowB {w w' : World} {zs : List Int} {B : Nat} (h : Lib.TabIs Tryz.prog w "internal/strconv.uint64pow10" .u64 zs) (hG : ∀ g, Tryz.prog.globalNamed "internal/strconv.uint64pow10" = some g → g < B) (hb : Below B w w') : Lib.TabIs Tryz.prog w' "internal/strconv.uint64pow10" .u64 zs := by
  unfold Lib.TabIs World.var? at h ⊢
  cases hg : Tryz.prog.globalNamed "internal/strconv.uint64pow10" with
  | none => rw [hg] at h; exact h
  | some g =>
    rw [hg] at h
    simp only [Option.bind_some] at h ⊢
    rw [hb.block g (hG g hg)]; exact h
theorem pow10_lt {w : World} {zs : List Int} (h : Lib.TabIs Tryz.prog w "internal/strconv.uint64pow10" .u64 zs) : ∀ g, Tryz.prog.globalNamed "internal/strconv.uint64pow10" = some g → g < w.heap.size := fun g hg => by
  unfold Lib.TabIs World.var? at h
  rw [hg] at h
  simp only [Option.bind_some] at h
  refine Nat.lt_of_not_le fun hn => ?_
  rw [Array.getElem?_eq_none hn] at h
  cases h
/-- What stays while a text grows: a box with a node, its kids, the table of powers of ten. -/
structure Env (W : World) (B lim X : Nat) (k n : Int) (v : Value) (f : Fo) (w : World) : Prop where
  hx : w.heap[X]? = some (.cells #[.int .i64 k, .int .i64 n, v] 42 (0, 0))
  hB : B ≤ w.heap.size
  hk : Kids w lim v f
  ht : Lib.TabIs Tryz.prog w "internal/strconv.uint64pow10" .u64 Lib.pow10Tab
  hb : Below B W w
  ho : Oth W w
  hl : lim ≤ B
  hG : ∀ g, Tryz.prog.globalNamed "internal/strconv.uint64pow10" = some g → g < B
theorem Env.step {W w w' : World} {B lim X : Nat} {k n : Int} {v : Value} {f : Fo} (h : Env W B lim X k n v f w) (hb : Below B w w') (ho : Oth w w') : Env W B lim X k n v f w' :=
  ⟨(ho X _ _ _ h.hx (by decide)).trans h.hx, Nat.le_trans h.hB hb.size, h.hk.carry (hb.mono h.hl), pow10_belowB h.ht h.hG hb, h.hb.trans hb, h.ho.trans ho, h.hl, h.hG⟩
theorem Env.all {W w w' : World} {B lim X : Nat} {k n : Int} {v : Value} {f : Fo} (h : Env W B lim X k n v f w) (hb : Below w.heap.size w w') : Env W B lim X k n v f w' := h.step (hb.mono h.hB) (Oth.of_below hb)
theorem Env.cells {W w : World} {B lim X : Nat} {k n : Int} {v : Value} {f : Fo} (h : Env W B lim X k n v f w) : w.cell? ⟨X, 0, none⟩ = some (.int .i64 k) ∧ w.cell? ⟨X, 1, none⟩ = some (.int .i64 n) ∧ w.cell? ⟨X, 2, none⟩ = some v :=
  ⟨(bcells h.hx).1, (bcells h.hx).2.1, (bcells h.hx).2.2.1⟩
/-- What add tells. -/
def AddOk (W : World) (B : Nat) (l : List UInt8) (k n : Int) (ks : Fo) (e : Ending) (w' : World) : Prop := Below B W w' ∧ Oth W w' ∧
  (((Fo.cons k n ks .nil).okT ∧ ∃ tv, e = .returned (.tuple #[tv, .int .i64 0]) ∧ OwnB w' B tv (l ++ ndB k n ks)) ∨ (¬ (Fo.cons k n ks .nil).okT ∧ e = .returned (.tuple #[.slice none 0 0, .int .i64 8])))
theorem wrd_empty {k : Int} (h : ¬ (1 ≤ k ∧ k ≤ 7)) : wrd k = ⟨#[]⟩ := by
  unfold wrd
  repeat rw [if_neg (by omega)]
theorem ba_isEmpty (x : ByteArray) : x.toList.isEmpty = decide (x.size = 0) := by
  rw [Lib.toList_data, Lib.size_eq]
  cases x.data.toList <;> simp
set_option maxRecDepth 100000 in
set_option maxHeartbeats 16000000 in
theorem d_add (N : Nat) : ∀ (ks : Fo) (v tv : Value) (k n : Int) (lim B : Nat) (l : List UInt8) (W : World), ks.cnt ≤ N → N ≤ 1000 → Kids W lim v ks → lim ≤ B → B ≤ W.heap.size → (∀ g, Tryz.prog.globalNamed "internal/strconv.uint64pow10" = some g → g < B) → Lib.TabIs Tryz.prog W "internal/strconv.uint64pow10" .u64 Lib.pow10Tab → OwnB W B tv l → ks.wf → (-9223372036854775808 ≤ n ∧ n ≤ 9223372036854775807) → l.length + 17 * (ks.cnt + 1) ≤ 100000 →
    Calls Tryz.prog 65 #[tv, .agg #[.int .i64 k, .int .i64 n, v]] W (AddOk W B l k n ks) := by
  induction N using Nat.strongRecOn with
  | _ N ih =>
  intro ks v tv k n lim B l W hN hN2 hK hlB hBW hG hT hO hwf wn hlen
  obtain ⟨p, m, c, rfl, hc1, hc2, HM⟩ := hK.shape
  obtain ⟨w0, hw0, c0, c1, c2, hB0, hs0⟩ := box3 W k n (.slice p m c) 42
  have hx0 : w0.heap[W.heap.size]? = some (.cells #[.int .i64 k, .int .i64 n, .slice p m c] 42 (0, 0)) := by rw [hw0]; exact heap_alloc_new _ _
  have E0 : Env W B lim W.heap.size k n (.slice p m c) ks w0 := ⟨hx0, by omega, hK.carry (hB0.mono (by omega)), pow10_below hT hB0, hB0.mono hBW, Oth.of_below hB0, hlB, hG⟩
  have hO0 := hO.below hB0
  obtain ⟨ta, tn, tc, rfl⟩ := hO.form
  have DG := lex_digits n wn w0 E0.ht
  have hHW0 := Lib.hid hw0
  have HLEN := Lib.hid hlen
  have HWF := Lib.hid hwf
  have IH := Lib.hid ih
  have HG := Lib.hid hG
  clear hK hx0 hw0 hT hO ih hG hlen hwf
  go_enter Tryz.func65, Tryz.ntmps65
  go_wp2_with fail
  rw [← hHW0.out]
  refine DG.mono ?_
  rintro e w1 ⟨hb1, hcase⟩
  have E1 := Lib.hid (E0.all hb1)
  have hO1 := hO0.below hb1
  clear DG E0 hO0 hHW0 hB0 hb1 c0 c1 c2 hs0
  obtain ⟨c0, c1, c2⟩ := E1.out.cells
  have hBw1 := E1.out.hB
  rcases hcase with ⟨hbd, rfl⟩ | ⟨q, hq, hq9, t, ht, rfl⟩
  · have hno : Hid (¬ (Fo.cons k n ks .nil).okT) := Lib.hid (fun h => by
      have := h.1.2; omega)
    clear hbd hO1 HLEN HWF IH HM
    go_wp2_with fail
    go_ret2
    exact ⟨E1.out.hb, E1.out.ho, .inr ⟨hno.out, rfl⟩⟩
  obtain ⟨x, hx⟩ : ∃ x, wrd k = x := ⟨_, rfl⟩
  have WD := Lib.hid (d_word k w1)
  have WD := Lib.hid (by have := WD.out; rw [hx] at this; exact this)
  have hxe := ba_isEmpty x
  by_cases hk7 : 1 ≤ k ∧ k ≤ 7
  case neg =>
    have hno : Hid (¬ (Fo.cons k n ks .nil).okT) := Lib.hid (fun h => hk7 h.1.1)
    rw [wrd_empty hk7] at hx
    have he : x.toList.isEmpty = true := by rw [hxe, ← hx]; rfl
    clear hxe hx hO1 HLEN HWF IH HM hq ht
    go_wp2_with fail
    refine WD.out.mono ?_
    rintro e w1' ⟨rfl, rfl⟩
    go_wp2_with fail
    go_ret2
    exact ⟨E1.out.hb, E1.out.ho, .inr ⟨hno.out, rfl⟩⟩
  case pos =>
    have he : x.toList.isEmpty = false := by
      rw [hxe]; refine decide_eq_false ?_
      rw [Lib.size_eq, ← hx]; have := wrd_len hk7; omega
    have hok1 : okT1 k n := ⟨hk7, by omega, by omega⟩
    have hxz : x.size ≤ 5 := by rw [← hx]; exact wrd_size k
    have htz : t.size ≤ 9 := by
      have := (dec_len hq9).2
      rw [Lib.size_eq, ht]; exact this
    have HHD : Hid (hdB k n = x.data.toList ++ t.data.toList) := Lib.hid (by
      unfold hdB; rw [hx, ht, hq]; rfl)
    have hl1 : l.length + x.size ≤ 1000000 := by have := HLEN.out; omega
    have hl2 : (l ++ x.data.toList).length + t.size ≤ 1000000 := by
      have := HLEN.out
      rw [List.length_append, ← Lib.size_eq]; omega
    clear hxe hx ht
    go_wp2_with fail
    refine WD.out.mono ?_
    rintro e w1' ⟨rfl, rfl⟩
    go_wp2_with fail
    refine WD.out.mono ?_
    rintro e w1' ⟨rfl, rfl⟩
    clear WD
    go_wp2_with (first | (at_builtin; refine append_bs rfl _ _ rfl rfl hO1 rfl hBw1 hl1 ?_; intro v2 w2 hO2 hb2 ho2; obtain ⟨a2, n2, d2, rfl⟩ := hO2.form; have E2 := Lib.hid (E1.out.step hb2 ho2); have hBw2 := E2.out.hB; clear hb2 ho2) | (at_builtin; refine append_bs rfl _ _ rfl rfl hO2 rfl hBw2 hl2 ?_; intro v3 w3 hO3 hb3 ho3; obtain ⟨a3, n3, d3, rfl⟩ := hO3.form; have E3 := Lib.hid (E2.out.step hb3 ho3); obtain ⟨y0, y1, y2⟩ := E3.out.cells; clear hb3 ho3))
    have HO3 : Hid (OwnB w3 B (.slice a3 n3 d3) (l ++ upB k n ks 0)) := Lib.hid (by
      rw [upB_zero, HHD.out, ← List.append_assoc]; exact hO3)
    clear hO1 hO2 hO3 E1 E2 y0 y1 y2 c0 c1 c2 hl1 hl2 HHD
    go_loopw [0, 35] (fun x y wr => ∃ (i : Nat) (sv : Value) (wx : World), sv = x ∧ wx = wr ∧ y = .int .i64 i ∧ i ≤ m ∧ Hid (OwnB wr B x (l ++ upB k n ks i)) ∧ Hid (Env W B lim W.heap.size k n (.slice p m c) ks wr) ∧ Hid (∀ j, j < i → j < ks.len → okT1 (ks.k j) (ks.n j) ∧ (ks.kids j).okT)) (fun _ y _ => m - (intOf y).toNat)
    case atStart => exact ⟨0, _, _, rfl, rfl, rfl, Nat.zero_le _, HO3, E3, Lib.hid (fun j hj => absurd hj (Nat.not_lt_zero _))⟩
    case round =>
      clear HO3 E3
      obtain ⟨i, sv, wr, rfl, rfl, rfl, him, HO1, ED1, HOK1⟩ := hrel
      obtain ⟨sa, sn, sc, rfl⟩ := HO1.out.form
      by_cases hlt : i < m
      · have hi : i < ks.len := by have := HM.out; omega
        obtain ⟨b, o, u0, rfl, hb, k0, k1, k2, hKi⟩ := ED1.out.hk.get hlt
        obtain ⟨ua, un, uc, rfl, hu1, hu2, -⟩ := hKi.shape
        obtain ⟨w2, hw2, x0, x1, x2, hB2, hs2⟩ := box3 wr (ks.k i) (ks.n i) (.slice ua un uc) 42
        have hx2 : w2.heap[wr.heap.size]? = some (.cells #[.int .i64 (ks.k i), .int .i64 (ks.n i), .slice ua un uc] 42 (0, 0)) := by rw [hw2]; exact heap_alloc_new _ _
        have hBr := ED1.out.hB
        have ED := Lib.hid (ED1.out.all hB2)
        have EK : Hid (Env W B lim wr.heap.size (ks.k i) (ks.n i) (.slice ua un uc) (ks.kids i) w2) := Lib.hid ⟨hx2, ED.out.hB, hKi.carry (hB2.mono (by omega)), ED.out.ht, ED.out.hb, ED.out.ho, hlB, HG.out⟩
        have HO := Lib.hid (HO1.out.below hB2)
        have wfi := Fo.wf_at ks i HWF.out hi
        have hci := Fo.cnt_kids ks i hi
        have hple := pt_le ks i HOK1.out (by omega)
        have hcd : (ks.kids i).cnt + 1 ≤ (ks.drop i).cnt := by rw [Fo.drop_at ks i hi, Fo.cnt]; omega
        have hhd := hdB_le hok1
        have hul : (upB k n ks i).length ≤ 15 + (pt ks i).length := by
          unfold upB; rw [List.length_append]
          by_cases h0 : i = 0
          · rw [if_pos h0]; simp; omega
          · rw [if_neg h0]; simp; omega
        have HL : Hid ((l ++ upB k n ks i).length ≤ 1000000) := Lib.hid (by
          have := HLEN.out; rw [List.length_append]; omega)
        have HL4 : Hid ((l ++ upB k n ks i).length + 1 + 17 * ((ks.kids i).cnt + 1) ≤ 100000) := Lib.hid (by
          have := HLEN.out; rw [List.length_append]; omega)
        have IHi := Lib.hid (fun (tv' : Value) (l' : List UInt8) (W' : World) (hE : Env W B lim wr.heap.size (ks.k i) (ks.n i) (.slice ua un uc) (ks.kids i) W') (hO' : OwnB W' B tv' l') (hl' : l'.length + 17 * ((ks.kids i).cnt + 1) ≤ 100000) => IH.out (N - 1) (by omega) (ks.kids i) (.slice ua un uc) tv' (ks.k i) (ks.n i) lim B l' W' (by omega) (by omega) hE.hk hlB hE.hB HG.out hE.ht hO' wfi.2.2 wfi.2.1 hl')
        have HOKS : Hid ((Fo.cons (ks.k i) (ks.n i) (ks.kids i) .nil).okT → ∀ j, j < i + 1 → j < ks.len → okT1 (ks.k j) (ks.n j) ∧ (ks.kids j).okT) := Lib.hid (fun h j hj hjl => by
          by_cases hji : j = i
          · rw [hji]; exact ⟨h.1, h.2.1⟩
          · exact HOK1.out j (by omega) hjl)
        have HNOK : Hid (¬ (Fo.cons (ks.k i) (ks.n i) (ks.kids i) .nil).okT → ¬ (Fo.cons k n ks .nil).okT) := Lib.hid (fun h h2 => h (by
          have := okT_at h2.2.1 hi
          exact ⟨this.1, this.2, trivial⟩))
        have HW2 := Lib.hid hw2
        have d1 : decide ((i : Int) < (m : Int)) = true := decide_eq_true (by omega)
        have d1' : decide (i < m) = true := decide_eq_true hlt
        have HUP0 := Lib.hid (fun (h0 : i = 0) => upB_first (k := k) (n := n) (ks := ks) (by have := HM.out; omega))
        have HUP1 := Lib.hid (fun (h0 : i ≠ 0) => upB_next (k := k) (n := n) h0 hi)
        clear HO1 ED1 HOK1 hx2 hw2 hB2 hKi wfi hci hple hcd hhd hul
        by_cases h0 : i = 0
        · subst h0
          simp only [Nat.zero_mul, Nat.add_zero] at k0 k1 k2
          have HUP := Lib.hid (fun (w' : World) (z : Value) (h : OwnB w' B z (((l ++ upB k n ks 0) ++ [40]) ++ ndB (ks.k 0) (ks.n 0) (ks.kids 0))) => (by rw [show 0 + 1 = 1 from rfl, HUP0.out rfl, ← List.append_assoc, ← List.append_assoc]; exact h : OwnB w' B z (l ++ upB k n ks (0 + 1))))
          have HL4 : Hid (((l ++ upB k n ks 0) ++ [40]).length + 17 * ((ks.kids 0).cnt + 1) ≤ 100000) := Lib.hid (by
            have := HL4.out; rw [List.length_append]; simpa using this)
          clear HUP0 HUP1
          generalize hki : ks.k 0 = ki at *
          generalize hni : ks.n 0 = ni at *
          generalize hX : wr.heap.size = X at *
          go_upto_region 11 with fail
          rw [← HW2.out]
          refine wp_region_held_drew (S := fun w' => w'.cell? ⟨X, 0, none⟩ = some (.int .i64 ki) ∧ w'.cell? ⟨X, 1, none⟩ = some (.int .i64 ni) ∧ w'.cell? ⟨X, 2, none⟩ = some (.slice ua un uc)) (by kernel_rfl) ⟨x0, x1, x2⟩ (fun hHeld => ?_)
          obtain ⟨u, hu, hbu⟩ : ∃ u, w2.drew = u ∧ Below w2.heap.size w2 u := ⟨_, rfl, (Below.refl _ _).drew⟩
          rw [hu] at hHeld ⊢
          clear hu x0 x1 x2
          refine wpAnyH_take (i := 0) (v := ?v1) rfl (by kernel_rfl) (by kernel_rfl) (by kernel_rfl) (fun _ _ _ h => h) (Or.inl ⟨by kernel_rfl, ?hy1⟩) (by assumption) ?rest1
          case hy1 => intro w hSw; (try dsimp only at hSw); (try obtain ⟨hS0, hS1, hS2⟩ := hSw); go_simp; (first | done | with_reducible rfl)
          (try simp only [Act.put, List.getElem_toArray, List.getElem_cons_zero, List.getElem_cons_succ, List.setIfInBounds_toArray, List.set_cons_zero, List.set_cons_succ])
          refine wpAnyH_take (i := 1) (v := ?v2) rfl (by kernel_rfl) (by kernel_rfl) (by kernel_rfl) (fun _ _ _ h => h) (Or.inl ⟨by kernel_rfl, ?hy2⟩) (by assumption) ?rest2
          case hy2 => intro w hSw; (try dsimp only at hSw); (try obtain ⟨hS0, hS1, hS2⟩ := hSw); go_simp; (first | done | with_reducible rfl)
          (try simp only [Act.put, List.getElem_toArray, List.getElem_cons_zero, List.getElem_cons_succ, List.setIfInBounds_toArray, List.set_cons_zero, List.set_cons_succ])
          refine wpAnyH_take (i := 4) (v := ?v3) rfl (by kernel_rfl) (by kernel_rfl) (by kernel_rfl) (fun _ _ _ h => h) (Or.inl ⟨by kernel_rfl, ?hy3⟩) (by assumption) ?rest3
          case hy3 => intro w hSw; (try dsimp only at hSw); (try obtain ⟨hS0, hS1, hS2⟩ := hSw); go_simp; (first | done | with_reducible rfl)
          (try simp only [Act.put, List.getElem_toArray, List.getElem_cons_zero, List.getElem_cons_succ, List.setIfInBounds_toArray, List.set_cons_zero, List.set_cons_succ])
          refine wpAnyH_ready (rs := [2]) (by kernel_rfl) (by simp) ?_
          refine AllReadyH.cons rfl (fun K hK => ?_) AllReadyH.nil
          go_simp
          obtain ⟨u3, hu3⟩ : ∃ z, u.alloc (.cells #[.int .u8 40] 5) = z := ⟨_, rfl⟩
          have hb3 : Below u.heap.size u u3 := by rw [← hu3]; exact (Below.refl _ _).alloc (Nat.le_refl _) _
          have hc3 : u3.cell? ⟨u.heap.size, 0, none⟩ = some (.int .u8 ((40 : UInt8).toNat : Int)) := by rw [← hu3, cell_of_row _ _ _ _ _ _ (heap_alloc_new u _)]; rfl
          (try rw [hu3])
          clear hu3
          have hbb := hbu.trans (hb3.mono hbu.size)
          have EK3 := Lib.hid (EK.out.all hbb)
          have ED3 := Lib.hid (ED.out.all hbb)
          have HO3 := Lib.hid (HO.out.below hbb)
          obtain ⟨g3, hg3⟩ : ∃ z, u.heap.size = z := ⟨_, rfl⟩
          rw [hg3] at hc3
          (try rw [hg3])
          clear hb3 hbb hbu hg3
          refine hK.out _ _ EK3.out.cells (fun hHeld2 => ?_)
          clear hK K hHeld
          have hHeld := hHeld2
          clear hHeld2
          (try simp only [Act.put, List.getElem_toArray, List.getElem_cons_zero, List.getElem_cons_succ, List.setIfInBounds_toArray, List.set_cons_zero, List.set_cons_succ])
          refine wpAnyH_ready (rs := [3]) (by kernel_rfl) (by simp) ?_
          refine AllReadyH.cons rfl (fun K hK => ?_) AllReadyH.nil
          rw [if_pos (by kernel_rfl)]
          refine wp_append_b1 (c := 40) _ _ rfl rfl HO3.out rfl hc3 EK3.out.hB HL.out ?_
          intro v4 u4 hO4 hb4 ho4
          have EK4 := Lib.hid (EK3.out.step hb4 ho4)
          have ED4 := Lib.hid (ED3.out.step hb4 ho4)
          clear hc3
          refine hK.out _ _ EK4.out.cells (fun hHeld2 => ?_)
          clear hK K hHeld
          have hHeld := hHeld2
          clear hHeld2
          (try simp only [Act.put, List.getElem_toArray, List.getElem_cons_zero, List.getElem_cons_succ, List.setIfInBounds_toArray, List.set_cons_zero, List.set_cons_succ])
          obtain ⟨va, vn, vc, rfl⟩ := hO4.form
          have C4 := IHi.out _ _ u4 EK4.out hO4 HL4.out
          clear HO3 EK3 ED3 hb4 ho4 hO4
          refine wpAnyH_ready (rs := [5]) (by kernel_rfl) (by simp) ?_
          refine AllReadyH.cons rfl (fun K hK => ?_) AllReadyH.nil
          go_simp
          refine C4.mono ?_
          rintro e u5 ⟨hb5, ho5, hcase⟩
          have EK5 := Lib.hid (EK4.out.step hb5 ho5)
          have ED5 := Lib.hid (ED4.out.step hb5 ho5)
          clear EK4 ED4 C4 hb5 ho5
          rcases hcase with ⟨hok, tv5, rfl, hO5⟩ | ⟨hbad, rfl⟩
          · obtain ⟨ta, tn, tc, rfl⟩ := hO5.form
            have HO5 := Lib.hid hO5
            have HOK := Lib.hid hok
            clear hok hO5
            (try go_wp2_with fail)
            refine hK.out _ _ EK5.out.cells (fun hHeld2 => ?_)
            clear hK K hHeld
            have hHeld := hHeld2
            clear hHeld2
            (try simp only [Act.put, List.getElem_toArray, List.getElem_cons_zero, List.getElem_cons_succ, List.setIfInBounds_toArray, List.set_cons_zero, List.set_cons_succ])
            refine wpAnyH_take (i := 6) (v := ?v4) rfl (by kernel_rfl) (by kernel_rfl) (by kernel_rfl) (fun _ _ _ h => h) (Or.inl ⟨by kernel_rfl, ?hy4⟩) (by assumption) ?rest4
            case hy4 => intro w hSw; (try dsimp only at hSw); (try obtain ⟨hS0, hS1, hS2⟩ := hSw); go_simp; (first | done | with_reducible rfl)
            (try simp only [Act.put, List.getElem_toArray, List.getElem_cons_zero, List.getElem_cons_succ, List.setIfInBounds_toArray, List.set_cons_zero, List.set_cons_succ])
            refine wpAnyH_take (i := 7) (v := ?v5) rfl (by kernel_rfl) (by kernel_rfl) (by kernel_rfl) (fun _ _ _ h => h) (Or.inl ⟨by kernel_rfl, ?hy5⟩) (by assumption) ?rest5
            case hy5 => intro w hSw; (try dsimp only at hSw); (try obtain ⟨hS0, hS1, hS2⟩ := hSw); go_simp; (first | done | with_reducible rfl)
            (try simp only [Act.put, List.getElem_toArray, List.getElem_cons_zero, List.getElem_cons_succ, List.setIfInBounds_toArray, List.set_cons_zero, List.set_cons_succ])
            refine wpAnyH_take (i := 8) (v := ?v6) rfl (by kernel_rfl) (by kernel_rfl) (by kernel_rfl) (fun _ _ _ h => h) (Or.inl ⟨by kernel_rfl, ?hy6⟩) (by assumption) ?rest6
            case hy6 => intro w hSw; (try dsimp only at hSw); (try obtain ⟨hS0, hS1, hS2⟩ := hSw); go_simp; (first | done | with_reducible rfl)
            (try simp only [Act.put, List.getElem_toArray, List.getElem_cons_zero, List.getElem_cons_succ, List.setIfInBounds_toArray, List.set_cons_zero, List.set_cons_succ])
            refine wpAnyH_take (i := 9) (v := ?v7) rfl (by kernel_rfl) (by kernel_rfl) (by kernel_rfl) (fun _ _ _ h => h) (Or.inl ⟨by kernel_rfl, ?hy7⟩) (by assumption) ?rest7
            case hy7 => intro w hSw; (try dsimp only at hSw); (try obtain ⟨hS0, hS1, hS2⟩ := hSw); go_simp; (first | done | with_reducible rfl)
            (try simp only [Act.put, List.getElem_toArray, List.getElem_cons_zero, List.getElem_cons_succ, List.setIfInBounds_toArray, List.set_cons_zero, List.set_cons_succ])
            refine wpAnyH_take (i := 10) (v := ?v8) rfl (by kernel_rfl) (by kernel_rfl) (by kernel_rfl) (fun _ _ _ h => h) (Or.inl ⟨by kernel_rfl, ?hy8⟩) (by assumption) ?rest8
            case hy8 => intro w hSw; (try dsimp only at hSw); (try obtain ⟨hS0, hS1, hS2⟩ := hSw); go_simp; (first | done | with_reducible rfl)
            (try simp only [Act.put, List.getElem_toArray, List.getElem_cons_zero, List.getElem_cons_succ, List.setIfInBounds_toArray, List.set_cons_zero, List.set_cons_succ])
            refine wpAnyH_done (by kernel_rfl) ?_ _
            go_wp2_with fail
            go_roundw
            case rel => exact ⟨0 + 1, _, _, rfl, rfl, by go_num, by omega, Lib.hid (HUP.out _ _ HO5.out), ED5, Lib.hid (HOKS.out HOK.out)⟩
            case measure => (first | (simp [intOf]; done) | (simp [intOf]; omega) | (simp only [intOf]; omega))
          · have HBAD := Lib.hid (HNOK.out hbad)
            clear hbad
            (try go_wp2_with fail)
            refine hK.out _ _ EK5.out.cells (fun hHeld2 => ?_)
            clear hK K hHeld
            have hHeld := hHeld2
            clear hHeld2
            (try simp only [Act.put, List.getElem_toArray, List.getElem_cons_zero, List.getElem_cons_succ, List.setIfInBounds_toArray, List.set_cons_zero, List.set_cons_succ])
            refine wpAnyH_take (i := 6) (v := ?v9) rfl (by kernel_rfl) (by kernel_rfl) (by kernel_rfl) (fun _ _ _ h => h) (Or.inl ⟨by kernel_rfl, ?hy9⟩) (by assumption) ?rest9
            case hy9 => intro w hSw; (try dsimp only at hSw); (try obtain ⟨hS0, hS1, hS2⟩ := hSw); go_simp; (first | done | with_reducible rfl)
            (try simp only [Act.put, List.getElem_toArray, List.getElem_cons_zero, List.getElem_cons_succ, List.setIfInBounds_toArray, List.set_cons_zero, List.set_cons_succ])
            refine wpAnyH_take (i := 7) (v := ?v10) rfl (by kernel_rfl) (by kernel_rfl) (by kernel_rfl) (fun _ _ _ h => h) (Or.inl ⟨by kernel_rfl, ?hy10⟩) (by assumption) ?rest10
            case hy10 => intro w hSw; (try dsimp only at hSw); (try obtain ⟨hS0, hS1, hS2⟩ := hSw); go_simp; (first | done | with_reducible rfl)
            (try simp only [Act.put, List.getElem_toArray, List.getElem_cons_zero, List.getElem_cons_succ, List.setIfInBounds_toArray, List.set_cons_zero, List.set_cons_succ])
            refine wpAnyH_take (i := 8) (v := ?v11) rfl (by kernel_rfl) (by kernel_rfl) (by kernel_rfl) (fun _ _ _ h => h) (Or.inl ⟨by kernel_rfl, ?hy11⟩) (by assumption) ?rest11
            case hy11 => intro w hSw; (try dsimp only at hSw); (try obtain ⟨hS0, hS1, hS2⟩ := hSw); go_simp; (first | done | with_reducible rfl)
            (try simp only [Act.put, List.getElem_toArray, List.getElem_cons_zero, List.getElem_cons_succ, List.setIfInBounds_toArray, List.set_cons_zero, List.set_cons_succ])
            refine wpAnyH_take (i := 9) (v := ?v12) rfl (by kernel_rfl) (by kernel_rfl) (by kernel_rfl) (fun _ _ _ h => h) (Or.inl ⟨by kernel_rfl, ?hy12⟩) (by assumption) ?rest12
            case hy12 => intro w hSw; (try dsimp only at hSw); (try obtain ⟨hS0, hS1, hS2⟩ := hSw); go_simp; (first | done | with_reducible rfl)
            (try simp only [Act.put, List.getElem_toArray, List.getElem_cons_zero, List.getElem_cons_succ, List.setIfInBounds_toArray, List.set_cons_zero, List.set_cons_succ])
            refine wpAnyH_take (i := 10) (v := ?v13) rfl (by kernel_rfl) (by kernel_rfl) (by kernel_rfl) (fun _ _ _ h => h) (Or.inl ⟨by kernel_rfl, ?hy13⟩) (by assumption) ?rest13
            case hy13 => intro w hSw; (try dsimp only at hSw); (try obtain ⟨hS0, hS1, hS2⟩ := hSw); go_simp; (first | done | with_reducible rfl)
            (try simp only [Act.put, List.getElem_toArray, List.getElem_cons_zero, List.getElem_cons_succ, List.setIfInBounds_toArray, List.set_cons_zero, List.set_cons_succ])
            refine wpAnyH_done (by kernel_rfl) ?_ _
            go_wp2_with fail
            go_ret2
            exact ⟨ED5.out.hb, ED5.out.ho, .inr ⟨HBAD.out, rfl⟩⟩
        · have e0 : ((i : Int) == 0) = false := by rw [beq_eq_false_iff_ne]; omega
          have e0' : (i == 0) = false := by rw [beq_eq_false_iff_ne]; exact h0
          have HUP := Lib.hid (fun (w' : World) (z : Value) (h : OwnB w' B z (((l ++ upB k n ks i) ++ [44]) ++ ndB (ks.k i) (ks.n i) (ks.kids i))) => (by rw [HUP1.out h0, ← List.append_assoc, ← List.append_assoc]; exact h : OwnB w' B z (l ++ upB k n ks (i + 1))))
          have HL4 : Hid (((l ++ upB k n ks i) ++ [44]).length + 17 * ((ks.kids i).cnt + 1) ≤ 100000) := Lib.hid (by
            have := HL4.out; rw [List.length_append]; simpa using this)
          clear HUP0 HUP1
          generalize hki : ks.k i = ki at *
          generalize hni : ks.n i = ni at *
          generalize hX : wr.heap.size = X at *
          go_upto_region 11 with fail
          rw [← HW2.out]
          refine wp_region_held_drew (S := fun w' => w'.cell? ⟨X, 0, none⟩ = some (.int .i64 ki) ∧ w'.cell? ⟨X, 1, none⟩ = some (.int .i64 ni) ∧ w'.cell? ⟨X, 2, none⟩ = some (.slice ua un uc)) (by kernel_rfl) ⟨x0, x1, x2⟩ (fun hHeld => ?_)
          obtain ⟨u, hu, hbu⟩ : ∃ u, w2.drew = u ∧ Below w2.heap.size w2 u := ⟨_, rfl, (Below.refl _ _).drew⟩
          rw [hu] at hHeld ⊢
          clear hu x0 x1 x2
          refine wpAnyH_take (i := 0) (v := ?v14) rfl (by kernel_rfl) (by kernel_rfl) (by kernel_rfl) (fun _ _ _ h => h) (Or.inl ⟨by kernel_rfl, ?hy14⟩) (by assumption) ?rest14
          case hy14 => intro w hSw; (try dsimp only at hSw); (try obtain ⟨hS0, hS1, hS2⟩ := hSw); go_simp; (first | done | with_reducible rfl)
          (try simp only [Act.put, List.getElem_toArray, List.getElem_cons_zero, List.getElem_cons_succ, List.setIfInBounds_toArray, List.set_cons_zero, List.set_cons_succ])
          refine wpAnyH_take (i := 1) (v := ?v15) rfl (by kernel_rfl) (by kernel_rfl) (by kernel_rfl) (fun _ _ _ h => h) (Or.inl ⟨by kernel_rfl, ?hy15⟩) (by assumption) ?rest15
          case hy15 => intro w hSw; (try dsimp only at hSw); (try obtain ⟨hS0, hS1, hS2⟩ := hSw); go_simp; (first | done | with_reducible rfl)
          (try simp only [Act.put, List.getElem_toArray, List.getElem_cons_zero, List.getElem_cons_succ, List.setIfInBounds_toArray, List.set_cons_zero, List.set_cons_succ])
          refine wpAnyH_take (i := 4) (v := ?v16) rfl (by kernel_rfl) (by kernel_rfl) (by kernel_rfl) (fun _ _ _ h => h) (Or.inl ⟨by kernel_rfl, ?hy16⟩) (by assumption) ?rest16
          case hy16 => intro w hSw; (try dsimp only at hSw); (try obtain ⟨hS0, hS1, hS2⟩ := hSw); go_simp; (first | done | with_reducible rfl)
          (try simp only [Act.put, List.getElem_toArray, List.getElem_cons_zero, List.getElem_cons_succ, List.setIfInBounds_toArray, List.set_cons_zero, List.set_cons_succ])
          refine wpAnyH_ready (rs := [2]) (by kernel_rfl) (by simp) ?_
          refine AllReadyH.cons rfl (fun K hK => ?_) AllReadyH.nil
          go_simp
          obtain ⟨u3, hu3⟩ : ∃ z, u.alloc (.cells #[.int .u8 44] 5) = z := ⟨_, rfl⟩
          have hb3 : Below u.heap.size u u3 := by rw [← hu3]; exact (Below.refl _ _).alloc (Nat.le_refl _) _
          have hc3 : u3.cell? ⟨u.heap.size, 0, none⟩ = some (.int .u8 ((44 : UInt8).toNat : Int)) := by rw [← hu3, cell_of_row _ _ _ _ _ _ (heap_alloc_new u _)]; rfl
          (try rw [hu3])
          clear hu3
          have hbb := hbu.trans (hb3.mono hbu.size)
          have EK3 := Lib.hid (EK.out.all hbb)
          have ED3 := Lib.hid (ED.out.all hbb)
          have HO3 := Lib.hid (HO.out.below hbb)
          obtain ⟨g3, hg3⟩ : ∃ z, u.heap.size = z := ⟨_, rfl⟩
          rw [hg3] at hc3
          (try rw [hg3])
          clear hb3 hbb hbu hg3
          refine hK.out _ _ EK3.out.cells (fun hHeld2 => ?_)
          clear hK K hHeld
          have hHeld := hHeld2
          clear hHeld2
          (try simp only [Act.put, List.getElem_toArray, List.getElem_cons_zero, List.getElem_cons_succ, List.setIfInBounds_toArray, List.set_cons_zero, List.set_cons_succ])
          refine wpAnyH_ready (rs := [3]) (by kernel_rfl) (by simp) ?_
          refine AllReadyH.cons rfl (fun K hK => ?_) AllReadyH.nil
          rw [if_pos (by kernel_rfl)]
          refine wp_append_b1 (c := 44) _ _ rfl rfl HO3.out rfl hc3 EK3.out.hB HL.out ?_
          intro v4 u4 hO4 hb4 ho4
          have EK4 := Lib.hid (EK3.out.step hb4 ho4)
          have ED4 := Lib.hid (ED3.out.step hb4 ho4)
          clear hc3
          refine hK.out _ _ EK4.out.cells (fun hHeld2 => ?_)
          clear hK K hHeld
          have hHeld := hHeld2
          clear hHeld2
          (try simp only [Act.put, List.getElem_toArray, List.getElem_cons_zero, List.getElem_cons_succ, List.setIfInBounds_toArray, List.set_cons_zero, List.set_cons_succ])
          obtain ⟨va, vn, vc, rfl⟩ := hO4.form
          have C4 := IHi.out _ _ u4 EK4.out hO4 HL4.out
          clear HO3 EK3 ED3 hb4 ho4 hO4
          refine wpAnyH_ready (rs := [5]) (by kernel_rfl) (by simp) ?_
          refine AllReadyH.cons rfl (fun K hK => ?_) AllReadyH.nil
          go_simp
          refine C4.mono ?_
          rintro e u5 ⟨hb5, ho5, hcase⟩
          have EK5 := Lib.hid (EK4.out.step hb5 ho5)
          have ED5 := Lib.hid (ED4.out.step hb5 ho5)
          clear EK4 ED4 C4 hb5 ho5
          rcases hcase with ⟨hok, tv5, rfl, hO5⟩ | ⟨hbad, rfl⟩
          · obtain ⟨ta, tn, tc, rfl⟩ := hO5.form
            have HO5 := Lib.hid hO5
            have HOK := Lib.hid hok
            clear hok hO5
            (try go_wp2_with fail)
            refine hK.out _ _ EK5.out.cells (fun hHeld2 => ?_)
            clear hK K hHeld
            have hHeld := hHeld2
            clear hHeld2
            (try simp only [Act.put, List.getElem_toArray, List.getElem_cons_zero, List.getElem_cons_succ, List.setIfInBounds_toArray, List.set_cons_zero, List.set_cons_succ])
            refine wpAnyH_take (i := 6) (v := ?v17) rfl (by kernel_rfl) (by kernel_rfl) (by kernel_rfl) (fun _ _ _ h => h) (Or.inl ⟨by kernel_rfl, ?hy17⟩) (by assumption) ?rest17
            case hy17 => intro w hSw; (try dsimp only at hSw); (try obtain ⟨hS0, hS1, hS2⟩ := hSw); go_simp; (first | done | with_reducible rfl)
            (try simp only [Act.put, List.getElem_toArray, List.getElem_cons_zero, List.getElem_cons_succ, List.setIfInBounds_toArray, List.set_cons_zero, List.set_cons_succ])
            refine wpAnyH_take (i := 7) (v := ?v18) rfl (by kernel_rfl) (by kernel_rfl) (by kernel_rfl) (fun _ _ _ h => h) (Or.inl ⟨by kernel_rfl, ?hy18⟩) (by assumption) ?rest18
            case hy18 => intro w hSw; (try dsimp only at hSw); (try obtain ⟨hS0, hS1, hS2⟩ := hSw); go_simp; (first | done | with_reducible rfl)
            (try simp only [Act.put, List.getElem_toArray, List.getElem_cons_zero, List.getElem_cons_succ, List.setIfInBounds_toArray, List.set_cons_zero, List.set_cons_succ])
            refine wpAnyH_take (i := 8) (v := ?v19) rfl (by kernel_rfl) (by kernel_rfl) (by kernel_rfl) (fun _ _ _ h => h) (Or.inl ⟨by kernel_rfl, ?hy19⟩) (by assumption) ?rest19
            case hy19 => intro w hSw; (try dsimp only at hSw); (try obtain ⟨hS0, hS1, hS2⟩ := hSw); go_simp; (first | done | with_reducible rfl)
            (try simp only [Act.put, List.getElem_toArray, List.getElem_cons_zero, List.getElem_cons_succ, List.setIfInBounds_toArray, List.set_cons_zero, List.set_cons_succ])
            refine wpAnyH_take (i := 9) (v := ?v20) rfl (by kernel_rfl) (by kernel_rfl) (by kernel_rfl) (fun _ _ _ h => h) (Or.inl ⟨by kernel_rfl, ?hy20⟩) (by assumption) ?rest20
            case hy20 => intro w hSw; (try dsimp only at hSw); (try obtain ⟨hS0, hS1, hS2⟩ := hSw); go_simp; (first | done | with_reducible rfl)
            (try simp only [Act.put, List.getElem_toArray, List.getElem_cons_zero, List.getElem_cons_succ, List.setIfInBounds_toArray, List.set_cons_zero, List.set_cons_succ])
            refine wpAnyH_take (i := 10) (v := ?v21) rfl (by kernel_rfl) (by kernel_rfl) (by kernel_rfl) (fun _ _ _ h => h) (Or.inl ⟨by kernel_rfl, ?hy21⟩) (by assumption) ?rest21
            case hy21 => intro w hSw; (try dsimp only at hSw); (try obtain ⟨hS0, hS1, hS2⟩ := hSw); go_simp; (first | done | with_reducible rfl)
            (try simp only [Act.put, List.getElem_toArray, List.getElem_cons_zero, List.getElem_cons_succ, List.setIfInBounds_toArray, List.set_cons_zero, List.set_cons_succ])
            refine wpAnyH_done (by kernel_rfl) ?_ _
            go_wp2_with fail
            go_roundw
            case rel => exact ⟨i + 1, _, _, rfl, rfl, by go_num, by omega, Lib.hid (HUP.out _ _ HO5.out), ED5, Lib.hid (HOKS.out HOK.out)⟩
            case measure => (first | (simp [intOf]; done) | (simp [intOf]; omega) | (simp only [intOf]; omega))
          · have HBAD := Lib.hid (HNOK.out hbad)
            clear hbad
            (try go_wp2_with fail)
            refine hK.out _ _ EK5.out.cells (fun hHeld2 => ?_)
            clear hK K hHeld
            have hHeld := hHeld2
            clear hHeld2
            (try simp only [Act.put, List.getElem_toArray, List.getElem_cons_zero, List.getElem_cons_succ, List.setIfInBounds_toArray, List.set_cons_zero, List.set_cons_succ])
            refine wpAnyH_take (i := 6) (v := ?v22) rfl (by kernel_rfl) (by kernel_rfl) (by kernel_rfl) (fun _ _ _ h => h) (Or.inl ⟨by kernel_rfl, ?hy22⟩) (by assumption) ?rest22
            case hy22 => intro w hSw; (try dsimp only at hSw); (try obtain ⟨hS0, hS1, hS2⟩ := hSw); go_simp; (first | done | with_reducible rfl)
            (try simp only [Act.put, List.getElem_toArray, List.getElem_cons_zero, List.getElem_cons_succ, List.setIfInBounds_toArray, List.set_cons_zero, List.set_cons_succ])
            refine wpAnyH_take (i := 7) (v := ?v23) rfl (by kernel_rfl) (by kernel_rfl) (by kernel_rfl) (fun _ _ _ h => h) (Or.inl ⟨by kernel_rfl, ?hy23⟩) (by assumption) ?rest23
            case hy23 => intro w hSw; (try dsimp only at hSw); (try obtain ⟨hS0, hS1, hS2⟩ := hSw); go_simp; (first | done | with_reducible rfl)
            (try simp only [Act.put, List.getElem_toArray, List.getElem_cons_zero, List.getElem_cons_succ, List.setIfInBounds_toArray, List.set_cons_zero, List.set_cons_succ])
            refine wpAnyH_take (i := 8) (v := ?v24) rfl (by kernel_rfl) (by kernel_rfl) (by kernel_rfl) (fun _ _ _ h => h) (Or.inl ⟨by kernel_rfl, ?hy24⟩) (by assumption) ?rest24
            case hy24 => intro w hSw; (try dsimp only at hSw); (try obtain ⟨hS0, hS1, hS2⟩ := hSw); go_simp; (first | done | with_reducible rfl)
            (try simp only [Act.put, List.getElem_toArray, List.getElem_cons_zero, List.getElem_cons_succ, List.setIfInBounds_toArray, List.set_cons_zero, List.set_cons_succ])
            refine wpAnyH_take (i := 9) (v := ?v25) rfl (by kernel_rfl) (by kernel_rfl) (by kernel_rfl) (fun _ _ _ h => h) (Or.inl ⟨by kernel_rfl, ?hy25⟩) (by assumption) ?rest25
            case hy25 => intro w hSw; (try dsimp only at hSw); (try obtain ⟨hS0, hS1, hS2⟩ := hSw); go_simp; (first | done | with_reducible rfl)
            (try simp only [Act.put, List.getElem_toArray, List.getElem_cons_zero, List.getElem_cons_succ, List.setIfInBounds_toArray, List.set_cons_zero, List.set_cons_succ])
            refine wpAnyH_take (i := 10) (v := ?v26) rfl (by kernel_rfl) (by kernel_rfl) (by kernel_rfl) (fun _ _ _ h => h) (Or.inl ⟨by kernel_rfl, ?hy26⟩) (by assumption) ?rest26
            case hy26 => intro w hSw; (try dsimp only at hSw); (try obtain ⟨hS0, hS1, hS2⟩ := hSw); go_simp; (first | done | with_reducible rfl)
            (try simp only [Act.put, List.getElem_toArray, List.getElem_cons_zero, List.getElem_cons_succ, List.setIfInBounds_toArray, List.set_cons_zero, List.set_cons_succ])
            refine wpAnyH_done (by kernel_rfl) ?_ _
            go_wp2_with fail
            go_ret2
            exact ⟨ED5.out.hb, ED5.out.ho, .inr ⟨HBAD.out, rfl⟩⟩
      · obtain rfl : i = m := by omega
        have hHm := HM.out
        have d1 : decide ((i : Int) < (i : Int)) = false := decide_eq_false (by omega)
        obtain ⟨y0, y1, y2⟩ := ED1.out.cells
        have HOKT : Hid ((Fo.cons k n ks .nil).okT) := Lib.hid ⟨hok1, okT_all (fun j hj => HOK1.out j (by omega) hj), trivial⟩
        have hBr := ED1.out.hB
        have hple := pt_le ks i HOK1.out (by omega)
        have hhd := hdB_le hok1
        have hul : (upB k n ks i).length ≤ 15 + (pt ks i).length := by
          unfold upB; rw [List.length_append]
          by_cases h0 : i = 0
          · rw [if_pos h0]; simp; omega
          · rw [if_neg h0]; simp; omega
        have hll : (l ++ upB k n ks i).length ≤ 1000000 := by
          have := HLEN.out; rw [List.length_append]; omega
        clear hple hhd hul hHm
        have hO9 := HO1.out
        by_cases h0 : i = 0
        · have HE := Lib.hid (upB_none (k := k) (n := n) (show ks.len = 0 by have := HM.out; omega))
          have HI0 := Lib.hid HM.out
          subst h0
          clear hO9 HM
          go_wp2_with fail
          go_ret2
          refine ⟨ED1.out.hb, ED1.out.ho, .inl ⟨HOKT.out, _, rfl, ?_⟩⟩
          rw [← HE.out, ← HI0.out]; exact HO1.out
        · have HE := Lib.hid (upB_all (k := k) (n := n) (show ks.len ≠ 0 by have := HM.out; omega))
          have HI0 := Lib.hid HM.out
          have d2 : decide ((i : Int) > 0) = true := decide_eq_true (by omega)
          have d2' : decide (0 < i) = true := decide_eq_true (by omega)
          clear HM h0
          go_wp2_with (at_builtin; refine append_b1 (c := 41) (by rfl) rfl _ _ rfl rfl hO9 rfl hBr hll ?_; intro v5 w5 hO5 hb5 ho5)
          obtain ⟨va, vn, vc, rfl⟩ := hO5.form
          go_ret2
          have E5 := ED1.out.step hb5 ho5
          refine ⟨E5.hb, E5.ho, .inl ⟨HOKT.out, _, rfl, ?_⟩⟩
          rw [← HE.out, ← HI0.out, ← List.append_assoc]; exact hO5
end Go.Proofs.YtafmiilkdhdngaaGreatDoor
/- dtext.Print; the reference's Big, Check, Text. -/
namespace Go.Proofs.YtafmiilkdhdngaaGreatDoor
open Go.ChangeShapes Go.WideShapes Go.ChangeAt Go.RowKit
set_option linter.unusedVariables false
set_option linter.unusedSimpArgs false
attribute [local go_sem ↓] Go.wp_at_zero Go.wp_at_succ
/-- What Print tells. -/
def PrtOk (k n : Int) (ks : Fo) (W : World) (e : Ending) (w' : World) : Prop := Below W.heap.size W w' ∧
  ((bigT ks ∧ e = .returned (.tuple #[.string ⟨#[]⟩, .int .i64 12])) ∨ (¬ bigT ks ∧ ¬ (Fo.cons k n ks .nil).okT ∧ e = .returned (.tuple #[.string ⟨#[]⟩, .int .i64 8])) ∨
    (¬ bigT ks ∧ (Fo.cons k n ks .nil).okT ∧ ∃ s : ByteArray, s.data.toList = ndB k n ks ∧ e = .returned (.tuple #[.string s, .int .i64 0])))
theorem ndB_ne (k n : Int) (ks : Fo) (h : okT1 k n) : ndB k n ks ≠ [] := fun e => by
  have h1 := hdB_len k n h
  rw [ndB_eq] at e
  rw [(List.append_eq_nil_iff.1 e).1] at h1
  simp at h1
set_option maxRecDepth 100000 in
set_option maxHeartbeats 8000000 in
theorem d_print (ks : Fo) (v : Value) (k n : Int) (lim : Nat) (W : World) (hK : Kids W lim v ks) (hl : lim ≤ W.heap.size) (hwf : ks.wf) (wn : -9223372036854775808 ≤ n ∧ n ≤ 9223372036854775807) (hT : Lib.TabIs Tryz.prog W "internal/strconv.uint64pow10" .u64 Lib.pow10Tab) :
    Calls Tryz.prog 39 #[.agg #[.int .i64 k, .int .i64 n, v]] W (PrtOk k n ks W) := by
  obtain ⟨p, m, c, rfl, hc1, hc2, HM⟩ := hK.shape
  obtain ⟨w0, hw0, c0, c1, c2, hB0, hs0⟩ := box3 W k n (.slice p m c) 42
  have hK0 := hK.below hl hB0
  have BG := bulk_big ks (.slice p m c) k n lim w0 hK0 (by omega)
  have hT0 := pow10_below hT hB0
  have HW0 := Lib.hid hw0
  clear hw0 hK hT
  by_cases hb : bigT ks
  · have hb' : 60 < ks.cnt + 1 ∨ 12 < ks.depth + 1 := hb
    rw [decide_eq_true hb'] at BG
    have HBB := Lib.hid hb
    clear hb hb' HM
    go_enter Tryz.func39, Tryz.ntmps39
    go_wp2_with fail
    rw [← HW0.out]
    refine BG.mono ?_
    rintro e w1 ⟨rfl, hb1⟩
    go_wp2_with fail
    go_ret2
    exact ⟨hB0.trans (hb1.mono hB0.size), .inl ⟨HBB.out, rfl⟩⟩
  · have hb' : ¬ (60 < ks.cnt + 1 ∨ 12 < ks.depth + 1) := hb
    rw [decide_eq_false hb'] at BG
    have HBB := Lib.hid hb
    have hcnt : ks.cnt ≤ 60 := by omega
    clear hb hb' HM
    go_enter Tryz.func39, Tryz.ntmps39
    go_wp2_with fail
    rw [← HW0.out]
    refine BG.mono ?_
    rintro e w1 ⟨rfl, hb1⟩
    have hz1 := hb1.size
    have hK1 := hK0.below (by omega) hb1
    have hT1 := pow10_below hT0 hb1
    have AD := d_add 60 ks (.slice p m c) (.slice none 0 0) k n lim w1.heap.size [] w1 hcnt (by decide) hK1 (by omega) (Nat.le_refl _) (pow10_lt hT1) hT1 (OwnB.nil _ _) hwf wn (by simp; omega)
    have HB1 := Lib.hid (hB0.trans (hb1.mono hB0.size))
    have d0 := (hb1.cell (p := ⟨W.heap.size, 0, none⟩) (show W.heap.size < w0.heap.size by omega)).trans c0
    have d1 := (hb1.cell (p := ⟨W.heap.size, 1, none⟩) (show W.heap.size < w0.heap.size by omega)).trans c1
    have d2 := (hb1.cell (p := ⟨W.heap.size, 2, none⟩) (show W.heap.size < w0.heap.size by omega)).trans c2
    clear c0 c1 c2 BG HW0 hb1 hK1 hT1 hK0 hT0 hB0
    go_wp2_with fail
    refine AD.mono ?_
    rintro e w2 ⟨hb2, -, hcase⟩
    have HB2 := Lib.hid (HB1.out.trans (hb2.mono HB1.out.size))
    clear d0 d1 d2 AD hb2 HB1
    rcases hcase with ⟨hok, tv, rfl, hO⟩ | ⟨hno, rfl⟩
    · obtain ⟨ta, tn, tc, rfl⟩ := hO.form
      rw [List.nil_append] at hO
      have hcv := hO.text (ndB_ne k n ks hok.1) w2 rfl
      obtain ⟨s, hs⟩ : ∃ s : ByteArray, (⟨(ndB k n ks).toArray⟩ : ByteArray) = s := ⟨_, rfl⟩
      have HS : Hid (s.data.toList = ndB k n ks) := Lib.hid (by rw [← hs])
      rw [hs] at hcv
      have HOK := Lib.hid hok
      clear hs hok hO
      go_wp2_with fail
      go_ret2
      exact ⟨HB2.out, .inr (.inr ⟨HBB.out, HOK.out, s, HS.out, rfl⟩)⟩
    · have HNO := Lib.hid hno
      clear hno
      go_wp2_with fail
      go_ret2
      exact ⟨HB2.out, .inr (.inl ⟨HBB.out, HNO.out, rfl⟩)⟩
set_option maxRecDepth 100000 in
set_option maxHeartbeats 8000000 in
theorem r23_big (ks : Fo) (v : Value) (k n : Int) (lim : Nat) (W : World) (hN : ks.cnt ≤ 1048576) (hK : Kids W lim v ks) (hl : lim ≤ W.heap.size) :
    Calls Tryz.prog 77 #[.agg #[.int .i64 k, .int .i64 n, v]] W fun e w' => e = .returned (.bool (decide (bigT ks))) ∧ Below W.heap.size W w' := by
  obtain ⟨p, m, c, rfl, hc1, hc2, HM⟩ := hK.shape
  obtain ⟨w0, hw0, c0, c1, c2, hB0, hs0⟩ := box3 W k n (.slice p m c) 42
  have hK0 := hK.below hl hB0
  have RL := r13_list 1048576 ks (.slice p m c) k n lim w0 hN (Nat.le_refl _) hK0 (by omega)
  have HW0 := Lib.hid hw0
  have hlen : (Nd.mk k n ks :: ks.pre).length = ks.cnt + 1 := by simp [Fo.pre_len]
  clear hw0 hK HM
  go_enter Tryz.func77, Tryz.ntmps77
  go_wp2_with fail
  rw [← HW0.out]
  refine RL.mono ?_
  rintro e w1 ⟨u, rfl, hO, hb1⟩
  obtain ⟨ua, uc, rfl, -⟩ := hO.shape
  rw [hlen]
  have hz1 := hb1.size
  have HB1 := Lib.hid (hB0.trans (hb1.mono hB0.size))
  obtain ⟨L, hL⟩ : ∃ L, ks.cnt + 1 = L := ⟨_, rfl⟩
  rw [hL]
  have d0 := (hb1.cell (p := ⟨W.heap.size, 0, none⟩) (show W.heap.size < w0.heap.size by omega)).trans c0
  have d1 := (hb1.cell (p := ⟨W.heap.size, 1, none⟩) (show W.heap.size < w0.heap.size by omega)).trans c1
  have d2 := (hb1.cell (p := ⟨W.heap.size, 2, none⟩) (show W.heap.size < w0.heap.size by omega)).trans c2
  have RD := r13_depth 1048576 ks (.slice p m c) k n lim w1 hN (Nat.le_refl _) (hK0.below (by omega) hb1) (by omega)
  by_cases h60 : 60 < L
  · have e1 : decide ((L : Int) > 60) = true := decide_eq_true (by omega)
    have e1' : decide (60 < L) = true := decide_eq_true h60
    have HR : Hid (decide (bigT ks) = true) := Lib.hid (decide_eq_true (.inl (by omega)))
    clear hO RL hb1 RD hlen hL hK0
    go_wp2_with fail
    go_ret
    exact ⟨by rw [HR.out]; rfl, HB1.out⟩
  · have e1 : decide ((L : Int) > 60) = false := decide_eq_false (by omega)
    have e1' : decide (60 < L) = false := decide_eq_false h60
    obtain ⟨E, hE⟩ : ∃ E, ks.depth + 1 = E := ⟨_, rfl⟩
    rw [hE] at RD
    have HR : Hid (decide (bigT ks) = decide (12 < E)) := Lib.hid (by
      by_cases h : 12 < E
      · rw [decide_eq_true h]; exact decide_eq_true (.inr (by omega))
      · rw [decide_eq_false h]; exact decide_eq_false (fun x => by
          rcases x with x | x <;> omega))
    clear hO RL hb1 hlen hL hK0 hE
    go_wp2_with fail
    refine RD.mono ?_
    rintro e w2 ⟨rfl, hb2⟩
    have hb2' := HB1.out.trans (hb2.mono HB1.out.size)
    clear hb2 RD
    by_cases h12 : 12 < E
    · have e2 : decide ((E : Int) > 12) = true := decide_eq_true (by omega)
      have e2' : decide (12 < E) = true := decide_eq_true h12
      go_wp2_with fail
      go_ret
      exact ⟨by rw [HR.out, e2']; rfl, hb2'⟩
    · have e2 : decide ((E : Int) > 12) = false := decide_eq_false (by omega)
      have e2' : decide (12 < E) = false := decide_eq_false h12
      go_wp2_with fail
      go_ret
      exact ⟨by rw [HR.out, e2']; rfl, hb2'⟩
end Go.Proofs.YtafmiilkdhdngaaGreatDoor
