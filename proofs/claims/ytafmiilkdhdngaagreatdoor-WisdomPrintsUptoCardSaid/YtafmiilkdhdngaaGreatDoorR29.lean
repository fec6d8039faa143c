/- Put together by program (merge2.py): Wpr Wli Wow. -/
import Derived.RegionTactic
import Derived.RangeFuncNested
import Derived.RangeFuncBound
import Derived.RangeFuncCalls
import Derived.RangeFuncLeaves
import Derived.RangeFuncWrites
import Derived.Shelf.Abstract
import Derived.Shelf.RegionOpen
import Derived.WalkKit
import Derived.OwnWalkIn
import Derived.TacticsInMore
import Derived.LoopNIn
import Derived.LoopIn
import Derived.Test.YtafmiilkdhdngaaGreatDoorR15
import Derived.Test.YtafmiilkdhdngaaGreatDoorR20
import Derived.Test.YtafmiilkdhdngaaGreatDoorR22
import Derived.Test.YtafmiilkdhdngaaGreatDoorR25
import Derived.Test.YtafmiilkdhdngaaGreatDoorR26
import Derived.Test.YtafmiilkdhdngaaGreatDoorR28
/- wisdom.Print. -/
namespace Go.Proofs.YtafmiilkdhdngaaGreatDoor
open Go.ChangeShapes Go.WideShapes Go.ChangeAt Go.RowKit
set_option linter.unusedVariables false
open Go.WideMaps Go.MapKept Go.WideElems Go.ChangeMaps
set_option linter.unusedSimpArgs false
attribute [local go_sem ↓] Go.wp_at_zero Go.wp_at_succ
theorem hb10 : (⟨#[100, 117, 108, 99, 105, 109, 101, 114, 32, 49, 10]⟩ : ByteArray).data.toList = headB := rfl
set_option maxRecDepth 100000 in
set_option maxHeartbeats 16000000 in
theorem w_print (v : Value) (l : List En) (lim : Nat) (W : World) (h : RowN W lim v l) (hlim : lim ≤ W.heap.size) (hn : l.length ≤ 100000) (hE : ∀ e ∈ l, e.inr ∧ e.ks.cnt + 1 ≤ 1048576) (hT : Lib.TabIs Tryz.prog W "internal/strconv.uint64pow10" .u64 Lib.pow10Tab) :
    Calls Tryz.prog 8 #[v] W fun e w' => (∃ s : ByteArray, e = .returned (.tuple #[.string s, .int .i64 (wErr l)]) ∧ (wErr l ≠ 0 → s = ⟨#[]⟩) ∧ (wErr l = 0 → s.data.toList = wtx (sortN l))) ∧ Below W.heap.size W w' := by
  obtain ⟨p, c, rfl, hlc, hcm⟩ := h.form
  obtain ⟨n, hnl⟩ : ∃ n, l.length = n := ⟨_, rfl⟩
  have HNL := Lib.hid hnl
  have hmm := @run_makeMap Tryz.prog
  rw [hnl] at h hlc hn ⊢
  have HIN := Lib.hid h
  have HE := Lib.hid hE
  have HT_ := Lib.hid hT
  have ST := Lib.hid (fun (w' : World) (hb : Below W.heap.size W w') => entry_sort _ l lim w' (h.carry (hb.mono hlim)) (Nat.le_trans hlim hb.size) (by omega) (fun e he => by have := (hE e he).2; omega))
  rw [hnl] at ST
  have hcc : c ≤ 9223372036854775807 := by unfold maxLen at hcm; omega
  obtain ⟨M, hM⟩ : ∃ M, W.heap.size = M := ⟨_, rfl⟩
  have HMM := Lib.hid hM
  obtain ⟨w0, hw0, m0, hB0, hs0⟩ : ∃ w0, w0 = W.alloc (.map #[] 0) ∧ w0.heap[M]? = some (.map #[] 0) ∧ Below W.heap.size W w0 ∧ w0.heap.size = M + 1 :=
    ⟨_, rfl, by rw [← hM]; exact heap_alloc_new _ _, (Below.refl _ _).alloc (Nat.le_refl _) _, by rw [← hM]; simp⟩
  have HM0 := Lib.hid m0
  have HB0 := Lib.hid hB0
  have HS0 := Lib.hid hs0
  have HW0 := Lib.hid hw0.symm
  clear h hE hnl hcm hT hw0 m0 hB0 hs0
  go_enter Tryz.func8, Tryz.ntmps8
  go_wp2_with fail
  rw [HW0.out]
  try rw [hM]
  clear hM hmm
  go_loopw [16] (fun j wr => ∃ (i : Nat) (es : Array MapEntry) (clock : Nat), j = .int .i64 i ∧ i ≤ n ∧ Hid (∀ (j : Nat) (e : En), j < i → l[j]? = some e → chkE e = 0) ∧ Hid (wr.heap[M]? = some (.map es clock)) ∧ Hid (Cn (mrgE [] (l.take i)) es clock i) ∧ Hid (Below W.heap.size W wr)) (fun j _ => n - (intOf j).toNat)
  case atStart => exact ⟨0, _, _, rfl, by omega, Lib.hid (fun j e hj => by omega), HM0, Lib.hid Cn.nil, HB0⟩
  case round =>
    obtain ⟨i, es, clock, rfl, hi, HC, HMP, HCN, HB⟩ := hrel
    obtain ⟨wu, rfl⟩ : ∃ wu, wu = wr := ⟨_, rfl⟩
    by_cases hlt : i < n
    case pos =>
      have d1 : decide ((i : Int) < (n : Int)) = true := decide_eq_true (by omega)
      have d1' : decide (i < n) = true := decide_eq_true hlt
      obtain ⟨e, he⟩ : ∃ e, l[i]? = some e := ⟨l[i]'(by have := HNL.out; omega), List.getElem?_eq_getElem (by have := HNL.out; omega)⟩
      obtain ⟨gb, o, rfl, hb, s, y0, y1, y2, y3, y4, hK⟩ := (HIN.out.carry (HB.out.mono hlim)).get he
      obtain ⟨sp, sm, sc, rfl, -, -, hsm⟩ := hK.shape
      obtain ⟨hinr, hcnt⟩ := HE.out e (List.mem_of_getElem? he)
      have hwm : ∀ x ∈ mrgE [] (l.take i), x.inr' := fun x hx => by
        rcases mem_mrgE hx with h | h
        · cases h
        · have := (HE.out x (List.mem_of_mem_take h)).1; exact ⟨this.1, this.2.1⟩
      have HWM := Lib.hid hwm
      have HIE := Lib.hid (show e.inr' from ⟨hinr.1, hinr.2.1⟩)
      have STOP := Lib.hid (fun hz => badE_at he (fun j y h1 h2 => HC.out j y h1 h2) hz)
      have STEP := Lib.hid (fun (hz : chkE e = 0) => (show ∀ (j : Nat) (y : En), j < i + 1 → l[j]? = some y → chkE y = 0 from fun j y hj hy => by
        rcases Nat.lt_or_eq_of_le (Nat.le_of_lt_succ hj) with h | rfl
        · exact HC.out j y h hy
        · rw [he] at hy; cases hy; exact hz))
      have SN := Lib.hid (mrgE_snoc (l := []) he)
      obtain ⟨zc, hzc⟩ : ∃ z, chkE e = z := ⟨_, rfl⟩
      obtain ⟨w2, hw2, r2, hb2, hs2⟩ := box5 wu e.a e.b e.k e.n (.slice sp sm sc) 44
      have hbz := HB.out.size
      have CH := e_check e.ks (.slice sp sm sc) e.a e.b e.k e.n lim w2 (by omega) (hK.below (by omega) hb2) (by omega) hinr.1 hinr.2.2.1 hinr.2.2.2.1 hinr.2.2.2.2
      rw [show fori e.a e.b e.n (chkd e.k e.n e.ks) = zc from hzc] at CH
      rw [hzc] at STOP STEP
      have HW2 := Lib.hid hw2.symm
      have HB2 := Lib.hid (HB.out.trans (hb2.mono HB.out.size))
      have hMu : M < wu.heap.size := (Array.getElem?_eq_some_iff.1 HMP.out).1
      have m2 := (hb2.block M hMu).trans HMP.out
      obtain ⟨x0, x1, x2, x3, x4⟩ := cells5 r2
      have HR2 := Lib.hid r2
      have HM2 := Lib.hid m2
      obtain ⟨X, hX⟩ : ∃ X, wu.heap.size = X := ⟨_, rfl⟩
      rw [hX] at x0 x1 x2 x3 x4 HR2 hs2 hMu
      have HX := Lib.hid hX
      have hXl : X < w2.heap.size := by omega
      have hMl : M < w2.heap.size := by omega
      have hiI : (i : Int) < (n : Int) := by omega
      have hi0 : (0 : Int) ≤ (i : Int) := by omega
      clear hzc hK hsm hinr hcnt hwm hb hw2 hb2 r2 m2 HC he hX
      go_upto_region 5 with fail
      rw [HW2.out]
      try rw [HX.out]
      go_wp2_with fail
      refine CH.mono ?_
      rintro e3 w3 ⟨rfl, hb3⟩
      have HB3 := Lib.hid (HB2.out.trans (hb3.mono HB2.out.size))
      have r3 := (hb3.block X hXl).trans HR2.out
      have m3 := (hb3.block M hMl).trans HM2.out
      have hM3 : M < w3.heap.size := by have := hb3.size; omega
      clear CH hb3 x0 x1 x2 x3 x4 y0 y1 y2 y3 y4
      by_cases hz : zc = 0
      case neg =>
        have d2 : (zc != 0) = true := by simp [hz]
        have WE := Lib.hid (show wErr l = zc from by rw [wErr_bad (by rw [STOP.out hz]; exact hz), STOP.out hz])
        have HZ := Lib.hid hz
        clear STOP STEP r3 m3 hz
        go_wp2_with fail
        go_ret2
        exact ⟨⟨_, by rw [WE.out]; rfl, fun _ => rfl, fun h0 => absurd (WE.out.symm.trans h0) HZ.out⟩, HB3.out⟩
      case pos =>
        have d2 : (zc != 0) = false := by simp [hz]
        have ST2 := Lib.hid (STEP.out hz)
        obtain ⟨x0, x1, x2, x3, x4⟩ := cells5 r3
        clear STOP STEP r3 hz
        cases hh : hasE (mrgE [] (l.take i)) e.a e.b
        case true =>
          obtain ⟨cc, st, es', c1, c2, hC', hrun⟩ := cn_there HCN.out HWM.out hh
          obtain ⟨r1, r2, r3⟩ := hrun w3 M m3
          obtain ⟨q1, q2, q3⟩ := hrun w3.drew M m3
          have hg : goInt st = .int .i64 (st : Int) := rfl
          rw [hg] at r2 r3 q2 q3
          have W1 : IntKind.i64.wrap ((cc : Int) + 1) = (cc : Int) + 1 := IntWalk.i64_in _ (by omega)
          have HCN2 := Lib.hid (show Cn (mrgE [] (l.take (i + 1))) es' clock (i + 1) by rw [SN.out]; unfold putE; rw [hh, if_pos rfl]; exact hC')
          have FIN := Lib.hid (show (setBlock w3.drew M (.map es' clock)).heap[M]? = some (.map es' clock) ∧ Below W.heap.size W (setBlock w3.drew M (.map es' clock)) from
            ⟨setBlock_at hM3, HB3.out.drew.trans (setBlock_below (by have := HMM.out; omega))⟩)
          clear hg hC' hrun hh HCN HMP SN HWM HIE
          go_wp2_with fail
          go_region
          all_goals
            go_wp2_with fail
            go_roundw
          all_goals
            first
            | exact ⟨i + 1, es', clock, by go_num, by omega, ST2, Lib.hid FIN.out.1, HCN2, Lib.hid FIN.out.2⟩
            | (simp only [intOf]; omega)
        case false =>
          obtain ⟨r1, r2⟩ := cn_gone HCN.out HWM.out e HIE.out hh w3 M m3
          obtain ⟨q1, q2⟩ := cn_gone HCN.out HWM.out e HIE.out hh w3.drew M m3
          have hM4 : (setBlock w3.drew M (.map (es.push ⟨kv e.a e.b, .int .i64 0, clock⟩) (clock + 1))).heap[M]? = some (.map (es.push ⟨kv e.a e.b, .int .i64 0, clock⟩) (clock + 1)) := setBlock_at hM3
          obtain ⟨t1, t2⟩ := cn_pushed HCN.out HWM.out e HIE.out hh _ M hM4
          have hg : goInt clock = .int .i64 (clock : Int) := rfl
          rw [hg] at r2 q2 t2
          have HCN2 := Lib.hid (show Cn (mrgE [] (l.take (i + 1))) (es.push ⟨kv e.a e.b, .int .i64 1, clock⟩) (clock + 1) (i + 1) by rw [SN.out]; unfold putE; rw [hh, if_neg (by simp)]; exact HCN.out.snoc e hh _ rfl)
          have FIN := Lib.hid (show (setBlock (setBlock w3.drew M (.map (es.push ⟨kv e.a e.b, .int .i64 0, clock⟩) (clock + 1))) M (.map (es.push ⟨kv e.a e.b, .int .i64 1, clock⟩) (clock + 1))).heap[M]? = some (.map (es.push ⟨kv e.a e.b, .int .i64 1, clock⟩) (clock + 1)) ∧ Below W.heap.size W (setBlock (setBlock w3.drew M (.map (es.push ⟨kv e.a e.b, .int .i64 0, clock⟩) (clock + 1))) M (.map (es.push ⟨kv e.a e.b, .int .i64 1, clock⟩) (clock + 1))) from
            ⟨setBlock_at (by rw [setBlock_size]; exact hM3), (HB3.out.drew.trans (setBlock_below (by have := HMM.out; omega))).trans (setBlock_below (by have := HMM.out; omega))⟩)
          clear hg hh hM4 HCN HMP SN HWM HIE
          go_wp2_with fail
          go_region
          all_goals
            go_wp2_with fail
            go_roundw
          all_goals
            first
            | exact ⟨i + 1, _, _, by go_num, by omega, ST2, Lib.hid FIN.out.1, HCN2, Lib.hid FIN.out.2⟩
            | (simp only [intOf]; omega)
    case neg =>
      obtain rfl : i = n := by omega
      have d1 : decide ((i : Int) < (i : Int)) = false := decide_eq_false (by omega)
      have hall : ∀ e ∈ l, chkE e = 0 := fun e he => by
        obtain ⟨j, hj⟩ := List.mem_iff_getElem?.1 he
        exact HC.out j e (by have := (List.getElem?_eq_some_iff.1 hj).1; have := HNL.out; omega) hj
      have BZ := Lib.hid (show badE l = 0 from badE_zero hall)
      have GD := Lib.hid (show ∀ e ∈ l, GoodE e from fun e he => good_of (hall e he))
      have hK : es.size = (mrgE [] l).length := by have := HCN.out.sz; rw [← HNL.out, List.take_length] at this; exact this
      obtain ⟨K, hKK⟩ : ∃ K, (mrgE [] l).length = K := ⟨_, rfl⟩
      have LM : (Builtin.len_ #[46] 3 #[.map (some M)]).run Tryz.prog wu = .ok (.int .i64 (K : Nat)) wu := by
        have := run_len_map (P := Tryz.prog) (w := wu) 46 3 M _ _ (by kernel_rfl) HMP.out
        rw [this, hK, hKK]
        simp [goInt]
      have KF := Lib.hid (keys_fewer l)
      rw [hKK, HNL.out] at KF
      clear HC hall hK hKK HCN HMP
      by_cases hk : K < i
      case pos =>
        have d3 : decide ((K : Int) < (i : Int)) = true := decide_eq_true (by omega)
        have d3' : decide (K < i) = true := decide_eq_true hk
        have WE := Lib.hid (wErr_twice BZ.out (KF.out.1 hk))
        clear KF hk
        go_wp2_with fail
        go_ret2
        exact ⟨⟨_, by rw [WE.out]; rfl, fun _ => rfl, fun h0 => absurd (WE.out.symm.trans h0) (by decide)⟩, HB.out⟩
      case neg =>
        have d3 : decide ((K : Int) < (i : Int)) = false := decide_eq_false (by omega)
        have d3' : decide (K < i) = false := decide_eq_false hk
        have AP := Lib.hid (show Apart l from Classical.not_not.1 (fun h => hk (KF.out.2 h)))
        obtain ⟨wb, hwb, hbu, hBb, hsb⟩ : ∃ wb, wb = wu.alloc (.cells #[.pointer none, .slice none 0 0] 51) ∧ Bu wb wu.heap.size (.pointer none) (.slice none 0 0) [] ∧ Below wu.heap.size wu wb ∧ wb.heap.size = wu.heap.size + 1 :=
          ⟨_, rfl, ⟨heap_alloc_new _ _, World.ownsRow_nil _ _ _ _, by simp [Value.ownBlock], .inl rfl⟩, (Below.refl _ _).alloc (Nat.le_refl _) _, by simp⟩
        have WR := bu_write wb wu.heap.size _ _ [] ⟨#[100, 117, 108, 99, 105, 109, 101, 114, 32, 49, 10]⟩ hbu (by decide)
        rw [hb10, List.nil_append] at WR
        have HWB := Lib.hid hwb.symm
        have HBB := Lib.hid (HB.out.trans (hBb.mono HB.out.size))
        obtain ⟨b, hb⟩ : ∃ b, wu.heap.size = b := ⟨_, rfl⟩
        have HbM := Lib.hid (show W.heap.size ≤ b by have := HB.out.size; omega)
        rw [hb] at WR hsb
        have HBE := Lib.hid hb
        clear KF hk hwb hbu hBb hb
        go_upto_region 13 with fail
        clear LM
        rw [HWB.out]
        try rw [HBE.out]
        go_wp2_with fail
        refine WR.mono ?_
        rintro e1 w1 ⟨rfl, v1, h1, hv1, -, hb1⟩
        have HB1 := Lib.hid (HBB.out.trans (hb1.mono HbM.out))
        have SO := ST.out w1 HB1.out
        have HBU1 := Lib.hid h1
        have HV1 := Lib.hid hv1
        clear WR h1 hv1 hb1
        go_wp2_with fail
        refine SO.mono ?_
        rintro e2 w2 ⟨g, rfl, hg, hR2, hb2⟩
        have HB2 := Lib.hid (HB1.out.trans (hb2.mono HB1.out.size))
        have HBU2 := Lib.hid (HBU1.out.below hb2)
        have HRS := Lib.hid hR2
        have hV2 : ∀ k, v1.ownBlock = some k → k < w1.heap.size := fun k hk => (HBU1.out.ownLt k hk).2
        have hz2 := hb2.size
        have hbl := HBU1.out.lt
        obtain ⟨m, hm⟩ : ∃ m, sortN l = m := ⟨_, rfl⟩
        have hml : m.length = i := by rw [← hm, sortN_len]; exact HNL.out
        have GM := Lib.hid (show ∀ e ∈ m, GoodE e from fun e he => GD.out e (mem_sortN (by rw [hm]; exact he)))
        have HML := Lib.hid hml
        have HMS := Lib.hid hm
        rw [hm] at HRS
        have HBD := Lib.hid (fun q => show (wtx (m.take q)).length ≤ 11 + q * 1101 from by
          have h1 := wtl_len (l := m.take q) (fun e he => GM.out e (List.mem_of_mem_take he))
          have h2 : (m.take q).length ≤ q := by rw [List.length_take]; omega
          have h3 : (wtx (m.take q)).length = 11 + (wtl (m.take q)).length := by rw [wtx, List.length_append]; rfl
          have h4 : (m.take q).length * 1101 ≤ q * 1101 := Nat.mul_le_mul_right _ h2
          omega)
        obtain ⟨A, hA⟩ : ∃ A, w1.heap.size = A := ⟨_, rfl⟩
        obtain ⟨Z, hZ⟩ : ∃ Z, w2.heap.size = Z := ⟨_, rfl⟩
        rw [hA, hZ] at HRS hz2
        rw [hA] at hV2 hbl
        have HV2 := Lib.hid (show ∀ k, v1.ownBlock = some k → k < A ∨ Z ≤ k from fun k hk => .inl (hV2 k hk))
        have HZ2 := Lib.hid hZ
        clear SO hg hR2 hb2 hV2 hml hm hA hZ HBU1 HV1
        go_wp2_with fail
        go_loopw [42] (fun j wr => ∃ (q : Nat) (pp vv : Value), j = .int .i64 q ∧ q ≤ i ∧ Hid (Bu wr b pp vv (wtx (m.take q))) ∧ Hid (∀ k, vv.ownBlock = some k → k < A ∨ Z ≤ k) ∧ Hid (∀ k, A ≤ k → k < Z → wr.heap[k]? = w2.heap[k]?) ∧ Hid (Z ≤ wr.heap.size) ∧ Hid (Below W.heap.size W wr)) (fun j _ => i - (intOf j).toNat)
        case atStart => exact ⟨0, _, _, rfl, by omega, HBU2, HV2, Lib.hid (fun _ _ _ => rfl), Lib.hid (by have := HZ2.out; omega), HB2⟩
        case round =>
          obtain ⟨q, pp, vv, rfl, hq, HBU, HVV, HKP, HZZ, HB⟩ := hrel
          obtain ⟨wv, rfl⟩ : ∃ wv, wv = wr := ⟨_, rfl⟩
          by_cases hlt2 : q < i
          case neg =>
            obtain rfl : q = i := by omega
            have d4 : decide ((q : Int) < (q : Int)) = false := decide_eq_false (by omega)
            have hbu := HBU.out
            rw [show m.take q = m by rw [← HML.out, List.take_length]] at hbu
            have LN := c_b_Len b b _ wv hbu.is
            have SG := Lib.hid (c_b_String b b _ wv hbu.is (Nat.le_of_lt hbu.lt))
            rw [Lib.byteCells_length] at LN
            obtain ⟨L, hL⟩ : ∃ L, (wtx m).length = L := ⟨_, rfl⟩
            have WB := Lib.hid (fun h => wErr_big (l := l) BZ.out AP.out h)
            have WO := Lib.hid (fun h => wErr_ok (l := l) BZ.out AP.out h)
            rw [HMS.out, hL] at WB WO
            rw [hL] at LN
            clear hbu hL
            go_wp2_with fail
            refine LN.mono ?_
            rintro e5 w5 ⟨rfl, rfl⟩
            clear LN
            by_cases hbig : 65536 < L
            · have d5 : decide ((L : Int) > 65536) = true := decide_eq_true (by omega)
              have d5' : decide (65536 < L) = true := decide_eq_true hbig
              have WE := Lib.hid (WB.out hbig)
              clear WB WO SG
              go_wp2_with fail
              go_ret2
              exact ⟨⟨_, by rw [WE.out]; rfl, fun _ => rfl, fun h0 => absurd (WE.out.symm.trans h0) (by decide)⟩, HB.out⟩
            · have d5 : decide ((L : Int) > 65536) = false := decide_eq_false (by omega)
              have d5' : decide (65536 < L) = false := decide_eq_false hbig
              have WE := Lib.hid (WO.out hbig)
              clear WB WO
              go_wp2_with fail
              refine SG.out.mono ?_
              rintro e6 w6 ⟨rfl, hb6⟩
              have HB6 := Lib.hid (HB.out.trans (hb6.mono HbM.out))
              clear SG hb6
              go_wp2_with fail
              go_ret2
              exact ⟨⟨_, by rw [WE.out]; rfl, fun h0 => absurd WE.out h0, fun _ => by rw [HMS.out]⟩, HB6.out⟩
          case pos =>
            have d4 : decide ((q : Int) < (i : Int)) = true := decide_eq_true (by omega)
            have d4' : decide (q < i) = true := decide_eq_true hlt2
            obtain ⟨e, he⟩ : ∃ e, m[q]? = some e := ⟨m[q]'(by have := HML.out; omega), List.getElem?_eq_getElem (by have := HML.out; omega)⟩
            have hrow := RowS.toN (lim := Z) (RowS.carry (w' := wv) (S' := fun b => A ≤ b ∧ b < Z) HRS.out (fun x hx => ⟨hx, HKP.out x hx.1 hx.2⟩)) (fun x hx => hx.2)
            obtain ⟨gb, o, hgo, hgb, s, y0, y1, y2, y3, y4, hK⟩ := hrow.get he
            simp only [Option.some.injEq, Addr.mk.injEq] at hgo
            obtain ⟨rfl, rfl, -⟩ := hgo
            obtain ⟨sp, sm, sc, rfl, -, -, hsm⟩ := hK.shape
            obtain ⟨⟨hinr, hcnt⟩, hck⟩ := GM.out e (List.mem_of_getElem? he)
            obtain ⟨w5, hw5, r5, hb5, hs5⟩ := box5 wv e.a e.b e.k e.n (.slice sp sm sc) 44
            have hZw := HZZ.out
            have PR := e_print e.ks (.slice sp sm sc) e.a e.b e.k e.n Z w5 (by omega) (hK.below hZw hb5) (by omega) hinr.1 hinr.2.2.1 hinr.2.2.2.1 hinr.2.2.2.2 (pow10_below HT_.out (HB.out.trans (hb5.mono HB.out.size)))
            have HB5 := Lib.hid (HB.out.trans (hb5.mono HB.out.size))
            have HW5 := Lib.hid hw5.symm
            have HH5 := Lib.hid hb5
            have HCK := Lib.hid hck
            have HLE := Lib.hid (show ∀ x : ByteArray, x.data.toList = lnB e.a e.b e.k e.n e.ks → x.size ≤ 1100 ∧ wtx (m.take q) ++ (x.data.toList ++ [10]) = wtx (m.take (q + 1)) from fun x hx =>
              ⟨(ln_ent hx hck).2.2, by rw [show wtx (m.take (q + 1)) = headB ++ wtl (m.take (q + 1)) from rfl, wtl_take he, show wtx (m.take q) = headB ++ wtl (m.take q) from rfl, hx, List.append_assoc]; rfl⟩)
            obtain ⟨x0, x1, x2, x3, x4⟩ := cells5 r5
            obtain ⟨X, hX⟩ : ∃ X, wv.heap.size = X := ⟨_, rfl⟩
            rw [hX] at x0 x1 x2 x3 x4
            have HX := Lib.hid hX
            obtain ⟨ea, eb, ek, em, eks⟩ := e
            simp only at y0 y1 y2 y3 x0 x1 x2 x3 PR HW5 HCK HLE
            rw [Nat.zero_add] at y0 y1 y2 y3 y4
            have hiI : (q : Int) < (i : Int) := by omega
            have hi0 : (0 : Int) ≤ (q : Int) := by omega
            clear hrow hK hsm hinr hcnt hck he hw5 hb5 r5 hX
            go_upto_region 17 with fail
            rw [HW5.out]
            try rw [HX.out]
            go_wp2_with fail
            refine PR.mono ?_
            rintro e6 w6 ⟨hb6, hcase⟩
            rcases hcase with ⟨hne, -⟩ | ⟨-, sl, hsl, rfl⟩
            · exact absurd HCK.out hne
            have HB6 := Lib.hid (HB5.out.trans (hb6.mono HB5.out.size))
            have h56 := HH5.out.trans (hb6.mono HH5.out.size)
            have hbu6 := HBU.out.below h56
            obtain ⟨hsz, hnext⟩ := HLE.out sl hsl
            have hlen := HBD.out q
            have A1 : ∀ wx : World, (Op.stringOp .add sl ⟨#[10]⟩).run Tryz.prog wx = .ok (.string (sl ++ ⟨#[10]⟩)) wx := fun wx => run_string_add_sum wx _ _ (by show sl.size + 1 ≤ _; omega)
            have WR := bu_write w6 b pp vv (wtx (m.take q)) (sl ++ ⟨#[10]⟩) hbu6 (by rw [ByteArray.size_append]; show (wtx (m.take q)).length + (sl.size + 1) ≤ _; omega)
            rw [ba_app, show (⟨#[10]⟩ : ByteArray).data.toList = [10] from rfl, hnext] at WR
            have KEEP := Lib.hid (fun (w7 : World) (v7 : Value) (h1 : v7.ownBlock = vv.ownBlock ∨ v7.ownBlock = some w6.heap.size) (h2 : ∀ k, k < w6.heap.size → k ≠ b → vv.ownBlock ≠ some k → w7.heap[k]? = w6.heap[k]?) (h3 : Below b w6 w7) =>
              (show (∀ k, v7.ownBlock = some k → k < A ∨ Z ≤ k) ∧ (∀ k, A ≤ k → k < Z → w7.heap[k]? = w2.heap[k]?) ∧ Z ≤ w7.heap.size from by
                have hz6 := h56.size
                have hz7 := h3.size
                refine ⟨fun k hk => ?_, fun k h4 h5 => ?_, by omega⟩
                · rcases h1 with e | e
                  · exact HVV.out k (by rw [← e]; exact hk)
                  · rw [e] at hk; simp only [Option.some.injEq] at hk; right; omega
                · rw [h2 k (by omega) (by omega) (fun e => by rcases HVV.out k e with h | h <;> omega), h56.block k (by omega)]
                  exact HKP.out k h4 h5))
            generalize (sl ++ ⟨#[10]⟩ : ByteArray) = sl2 at *
            clear hb6 h56 hbu6 hsz hnext hsl x0 x1 x2 x3 x4 y0 y1 y2 y3 y4 PR HBU HKP HVV
            go_wp2_with fail
            refine WR.mono ?_
            rintro e7 w7 ⟨rfl, v7, h7, hv7, hk7, hb7⟩
            obtain ⟨g1, g2, g3⟩ := KEEP.out w7 v7 hv7 hk7 hb7
            have H7 := Lib.hid h7
            have G1 := Lib.hid g1
            have G2 := Lib.hid g2
            have G3 := Lib.hid g3
            have HB7 := Lib.hid (HB6.out.trans (hb7.mono HbM.out))
            clear h7 hv7 hk7 hb7 g1 g2 g3 KEEP WR
            go_wp2_with fail
            go_roundw
            case rel => exact ⟨q + 1, _, _, by go_num, by omega, H7, G1, G2, G3, HB7⟩
            case measure => simp only [intOf]; omega
end Go.Proofs.YtafmiilkdhdngaaGreatDoor
/- The lines of a text, one by one: the iterator of package wisdom. -/
namespace Go.Proofs.YtafmiilkdhdngaaGreatDoor
open Go.ChangeShapes Go.WideShapes Go.ChangeAt Go.RowKit
set_option linter.unusedVariables false
open Go.Shelf
set_option linter.unusedSimpArgs false
attribute [local go_sem] Oper.semAt_some
/-- A line: its text, and whether a line feed ends it. -/
structure Ln where
  t : ByteArray
  ok : t.size ≤ 70000
  e : Bool
def encL (x : Ln) : Array Value := #[.string x.t, .bool x.e]
/-- The lines from a place on. -/
inductive Lns (s : ByteArray) : Nat → List Ln → Prop
  | fin {p : Nat} : s.size ≤ p → Lns s p []
  | opn {p : Nat} {x : Ln} : p < s.size → Nof s p → x.t = s.extract p s.size → x.e = false → Lns s p [x]
  | one {p i : Nat} {x : Ln} {r : List Ln} : p < s.size → Fst s p i → x.t = s.extract p i → x.e = true → Lns s (i + 1) r → Lns s p (x :: r)
/-- What a round keeps: the text's box, and the library's variable. -/
def KpL (B1 : Nat) (A C : World) : Prop := (∀ v, A.cell? ⟨B1, 0, none⟩ = some v → C.cell? ⟨B1, 0, none⟩ = some v) ∧ ∀ v, A.cell? ⟨0, 0, none⟩ = some v → C.cell? ⟨0, 0, none⟩ = some v
theorem kpL_t {B1 : Nat} {A B C : World} (h : KpL B1 A B) (k : KpL B1 B C) : KpL B1 A C := ⟨fun v hv => k.1 v (h.1 v hv), fun v hv => k.2 v (h.2 v hv)⟩
theorem kpL_of {B1 : Nat} {A C : World} (h : Below A.heap.size A C) : KpL B1 A C :=
  ⟨fun v hv => (h.cell (p := ⟨B1, 0, none⟩) (block_lt_of_cell hv)).trans hv, fun v hv => (h.cell (p := ⟨0, 0, none⟩) (block_lt_of_cell hv)).trans hv⟩
theorem kpL_b {B1 : Nat} {w : World} (W : World) (l : Nat) (o o' : Obj) (_ : w.heap.size ≤ l) (h : W.heap[l]? = some o) (h1 : o.isCells = false) (_ : o.isWalk = false) : KpL B1 W (W.putObj l o') :=
  ⟨fun v hv => cell_kept hv (grownBy_putObj' W l o') (fun r e => by cases e; exact ⟨o, h, h1⟩), fun v hv => cell_kept hv (grownBy_putObj' W l o') (fun r e => by cases e; exact ⟨o, h, h1⟩)⟩
set_option maxRecDepth 100000 in
set_option maxHeartbeats 4000000 in
theorem lines_it (g : Nat) (hg : 1 ≤ g) (l B1 : Nat) (s : ByteArray) (hs : s.size ≤ 70000) (J Jx : List Ln → World → Prop) (hJ : ∀ pre A C, J pre A → Below A.heap.size A C → J pre C)
    (hY : ∀ pre x W, J pre W → pre.length < 70000 → YieldAt Fence.wide (g - 1) Tryz.prog l (encL x) W fun e W' => (e = .returned (.bool true) ∧ J (pre ++ [x]) W' ∧ KpL B1 W W') ∨ (e = .returned (.bool false) ∧ Jx (pre ++ [x]) W'))
    (W : World) (hB1 : W.cell? ⟨B1, 0, none⟩ = some (.string s)) (hm : ∃ m, W.cell? ⟨0, 0, none⟩ = some (.int .i64 m)) (h0 : J [] W) :
    CallsIn Fence.wide g Tryz.prog 44 #[.func (.yield l) #[] #[], .pointer (some ⟨B1, 0, none⟩)] W fun e W' => (∃ v, e = .returned v) ∧
      ((∃ zs, Lns s 0 zs ∧ J zs W') ∨ ∃ pre, (∃ r, Lns s 0 (pre ++ r)) ∧ Jx pre W') := by
  refine callsIn_of_wp Tryz.func44 rfl trivial ?_ rfl
  simp only [Tryz.ntmps44, List.size_toArray, List.length_cons, List.length_nil, Nat.reduceAdd, Nat.reduceSub, Array.replicate_succ, Array.replicate_zero, List.push_toArray, List.append_toArray, List.nil_append, List.cons_append]
  gi_wp2
  gi_loopw [3] (fun p wr => ∃ (a : Nat) (pre : List Ln), p = .int .i64 a ∧ a ≤ s.size ∧ pre.length ≤ a ∧ Hid (∀ r, Lns s a r → Lns s 0 (pre ++ r)) ∧ Hid (J pre wr) ∧ Hid (wr.cell? ⟨B1, 0, none⟩ = some (.string s)) ∧ Hid (∃ m, wr.cell? ⟨0, 0, none⟩ = some (.int .i64 m))) (fun p _ => s.size - (intOf p).toNat)
  case atStart => exact ⟨0, [], rfl, Nat.zero_le _, Nat.zero_le _, Lib.hid (fun r h => h), Lib.hid h0, Lib.hid hB1, Lib.hid hm⟩
  case round =>
    clear hB1 hm h0
    obtain ⟨a, pre, rfl, ha, hp, HP, HJ, HB, HM⟩ := hrel
    have hbox := HB.out
    by_cases hlt : a < s.size
    case neg =>
      obtain rfl : a = s.size := by omega
      have hd : decide ((s.size : Int) < (s.size : Int)) = false := decide_eq_false (by omega)
      gi_wp2
      go_end0
      exact ⟨⟨_, rfl⟩, .inl ⟨pre, by have := HP.out [] (.fin (Nat.le_refl _)); rw [List.append_nil] at this; exact this, HJ.out⟩⟩
    case pos =>
      have hd : decide ((a : Int) < (s.size : Int)) = true := decide_eq_true (by omega)
      have hd' : decide (a < s.size) = true := decide_eq_true hlt
      have hsl : ∀ wx, (Instr.slice 9 (.string s) (some (.int .i64 (a : Int))) none none).run Tryz.prog wx = .ok (.string (s.extract a s.size)) wx := fun wx => by
        rw [run_slice_string_from_if wx _ s .i64 (a : Int) Tryz.underlying9]
        simp
        omega
      have LL := lex_line s hs a (by omega) wr HM.out
      have hlen : pre.length < 70000 := by omega
      gi_wp2
      refine ⟨trivial, (callsIn_wide.2 LL).mono ?_⟩
      rintro e w1 ⟨hb1, hcase⟩
      have HJ1 := Lib.hid (hJ pre wr w1 HJ.out hb1)
      have hbox1 := (kpL_of (B1 := B1) hb1).1 _ HB.out
      have HB1 := Lib.hid hbox1
      have HM1 := Lib.hid (HM.out.imp (fun m h => (kpL_of (B1 := B1) hb1).2 _ h))
      clear LL hbox hb1 HJ HB HM
      rcases hcase with ⟨hn, rfl⟩ | ⟨i, hf, rfl⟩
      · have hx : (s.extract a s.size).size ≤ 70000 := by rw [ByteArray.size_extract]; omega
        obtain ⟨fn, tmps, assign, body, hy1, hR⟩ := hY pre ⟨s.extract a s.size, hx, false⟩ w1 HJ1.out hlen
        dsimp only [encL] at hy1
        have HL := Lib.hid (HP.out [⟨s.extract a s.size, hx, false⟩] (.opn hlt hn rfl rfl))
        clear hY hn HP
        gi_wp2
        refine hR.mono ?_
        rintro e W3 (⟨rfl, hJ3, hk3⟩ | ⟨rfl, hJx3⟩)
        · have HJ3 := Lib.hid hJ3
          clear hJ3 hk3
          gi_wp2
          refine bodyPost_ret (results_none rfl _ _ _) rfl ?_
          exact ⟨⟨_, rfl⟩, .inl ⟨_, HL.out, HJ3.out⟩⟩
        · have HJ3 := Lib.hid hJx3
          clear hJx3
          gi_wp2
          refine bodyPost_ret (results_none rfl _ _ _) rfl ?_
          exact ⟨⟨_, rfl⟩, .inr ⟨_, ⟨[], by rw [List.append_nil]; exact HL.out⟩, HJ3.out⟩⟩
      · have hi2 : i < s.size := hf.2.2.1
        have hi1 : a ≤ i := by have := hf.2.1; omega
        have hx : (s.extract a i).size ≤ 70000 := by rw [ByteArray.size_extract]; omega
        have hxe : s.extract ((a : Nat) : Int).toNat i = s.extract a i := rfl
        rw [hxe]
        obtain ⟨fn, tmps, assign, body, hy1, hR⟩ := hY pre ⟨s.extract a i, hx, true⟩ w1 HJ1.out hlen
        dsimp only [encL] at hy1
        have HL := Lib.hid (fun r (h : Lns s (i + 1) r) => HP.out (⟨s.extract a i, hx, true⟩ :: r) (.one hlt hf rfl rfl h))
        have HLE := Lib.hid (show ∃ r, Lns s (i + 1) r → True from ⟨[], fun _ => trivial⟩)
        have HEX := Lib.hid (show ∀ q, ∃ r, Lns s q r from fun q => by
          have aux : ∀ n q, s.size - q ≤ n → ∃ r, Lns s q r := by
            intro n
            induction n with
            | zero => intro q h; exact ⟨[], .fin (by omega)⟩
            | succ n ih =>
              intro q h
              by_cases hq : q < s.size
              · by_cases hh : ∃ i, Fst s q i
                · obtain ⟨i, hi⟩ := hh
                  have h1 := hi.2.1
                  have h2 := hi.2.2.1
                  obtain ⟨r, hr⟩ := ih (i + 1) (by omega)
                  exact ⟨_, .one (x := ⟨s.extract q i, by rw [ByteArray.size_extract]; omega, true⟩) hq hi rfl rfl hr⟩
                · refine ⟨_, .opn (x := ⟨s.extract q s.size, by rw [ByteArray.size_extract]; omega, false⟩) hq ?_ rfl rfl⟩
                  right
                  intro j h1 h2 h3
                  have aux2 : ∀ k j : Nat, j - q ≤ k → (q : Int) ≤ j → j < s.size → bt s j = 10 → ∃ i, Fst s q i := by
                    intro k
                    induction k with
                    | zero =>
                      intro j h4 h5 h6 h7
                      exact ⟨j, by omega, by omega, h6, h7, fun x h8 h9 => by omega⟩
                    | succ k ihk =>
                      intro j h4 h5 h6 h7
                      by_cases hx : ∃ x : Nat, (q : Int) ≤ x ∧ x < j ∧ bt s x = 10
                      · obtain ⟨x, x1, x2, x3⟩ := hx
                        exact ihk x (by omega) x1 (by omega) x3
                      · exact ⟨j, by omega, h5, h6, h7, fun x h8 h9 h10 => hx ⟨x, h8, h9, h10⟩⟩
                  exact hh (aux2 _ j (Nat.le_refl _) h1 h2 h3)
              · exact ⟨[], .fin (by omega)⟩
          exact aux _ q (Nat.le_refl _))
        clear hY hf HP HLE hxe
        gi_wp2
        refine hR.mono ?_
        rintro e W3 (⟨rfl, hJ3, hk3⟩ | ⟨rfl, hJx3⟩)
        · have HJ3 := Lib.hid hJ3
          have HB3 := Lib.hid (hk3.1 _ HB1.out)
          have HM3 := Lib.hid (HM1.out.imp (fun m h => hk3.2 _ h))
          clear hJ3 hk3 hbox1 HEX hR
          gi_wp2
          go_roundw
          case rel => exact ⟨i + 1, pre ++ [⟨s.extract a i, hx, true⟩], by go_num, by omega, by rw [List.length_append, List.length_singleton]; omega, Lib.hid (fun r h => by rw [List.append_assoc]; exact HL.out r h), HJ3, HB3, HM3⟩
          case measure => (first | (simp [intOf]; done) | (simp [intOf]; omega) | (simp only [intOf]; omega))
        · have HJ3 := Lib.hid hJx3
          have HRR := Lib.hid (show ∃ r, Lns s 0 ((pre ++ [⟨s.extract a i, hx, true⟩]) ++ r) from by
            obtain ⟨r, hr⟩ := HEX.out (i + 1)
            exact ⟨r, by rw [List.append_assoc]; exact HL.out r hr⟩)
          clear hJx3 HEX hR HL
          gi_wp2
          refine bodyPost_ret (results_none rfl _ _ _) rfl ?_
          exact ⟨⟨_, rfl⟩, .inr ⟨_, HRR.out, HJ3.out⟩⟩
theorem lines_stops (g : Nat) (hg : 1 ≤ g) (B1 : Nat) (s : ByteArray) (hs : s.size ≤ 70000) (w : World) (hB1 : w.cell? ⟨B1, 0, none⟩ = some (.string s)) (hm : ∃ m, w.cell? ⟨0, 0, none⟩ = some (.int .i64 m)) :
    SeqStopsK Fence.wide g Tryz.prog 44 #[.pointer (some ⟨B1, 0, none⟩)] encL (KpL B1) (fun zs => Lns s 0 zs) (fun pre => ∃ r, Lns s 0 (pre ++ r)) 70000 w := fun l J Jx W hW hJ _ hY h0 =>
  lines_it g hg l B1 s hs J Jx (fun pre A C h hb => hJ pre A C none h ⟨hb.os, hb.tape, hb.output, hb.size, fun k hk _ => hb.block k hk⟩ (fun r e => by cases e)) hY W ((kpL_of (B1 := B1) hW).1 _ hB1) (hm.imp (fun m h => (kpL_of (B1 := B1) hW).2 _ h)) h0
set_option maxRecDepth 100000 in
theorem lines_make (g : Nat) (s : ByteArray) (w : World) :
    CallsIn Fence.wide g Tryz.prog 26 #[.string s] w fun e w' => e = .returned (.func (.func 44) #[] #[.pointer (some ⟨w.heap.size, 0, none⟩)]) ∧ w' = w.alloc (.cells #[.string s] 9) := by
  refine callsIn_of_wp Tryz.func26 rfl trivial ?_ rfl
  simp only [Tryz.ntmps26, List.size_toArray, List.length_cons, List.length_nil, Nat.reduceAdd, Nat.reduceSub, Array.replicate_succ, Array.replicate_zero, List.push_toArray, List.append_toArray, List.nil_append, List.cons_append]
  gi_wp2
  go_ret
  exact ⟨rfl, rfl⟩
end Go.Proofs.YtafmiilkdhdngaaGreatDoor
/- Own rows of entries that grow by append, whose kids lie in memory laid later than the row. -/
namespace Go.Proofs.YtafmiilkdhdngaaGreatDoor
open Go.ChangeShapes Go.WideShapes Go.ChangeAt Go.RowKit
set_option linter.unusedVariables false
set_option linter.unusedSimpArgs false
/-- Cells that hold these entries, five to each; kids in the blocks S. -/
def ECellsS (w : World) (S : Nat → Prop) : List Value → List En → Prop
  | xs, [] => xs = []
  | xs, e :: l => ∃ s ys, xs = .int .i64 e.a :: .int .i64 e.b :: .int .i64 e.k :: .int .i64 e.n :: s :: ys ∧ KidsS w S s e.ks ∧ ECellsS w S ys l
theorem ECellsS.len : ∀ {w : World} {S : Nat → Prop} {xs : List Value} {l : List En}, ECellsS w S xs l → xs.length = l.length * 5
  | _, _, _, [], h => by rw [show _ = [] from h]; rfl
  | _, _, _, d :: l, ⟨v, ys, e, _, h⟩ => by rw [e]; simp [ECellsS.len h]; omega
theorem ECellsS.append : ∀ {w : World} {S : Nat → Prop} {xs ys : List Value} {l m : List En}, ECellsS w S xs l → ECellsS w S ys m → ECellsS w S (xs ++ ys) (l ++ m)
  | _, _, _, _, [], _, h, h2 => by rw [show _ = [] from h]; exact h2
  | _, _, _, _, d :: l, m, ⟨v, zs, e, hk, h⟩, h2 => by rw [e]; exact ⟨v, _, rfl, hk, ECellsS.append h h2⟩
theorem ECellsS.carry : ∀ {w w' : World} {S S' : Nat → Prop} {xs : List Value} {l : List En}, ECellsS w S xs l → (∀ b, S b → S' b ∧ w'.heap[b]? = w.heap[b]?) → ECellsS w' S' xs l
  | _, _, _, _, _, [], h, _ => h
  | _, _, _, _, _, d :: l, ⟨v, ys, e, hk, h⟩, hb => ⟨v, ys, e, hk.carry hb, h.carry hb⟩
theorem ECellsS.one : ∀ {w : World} {S : Nat → Prop} {xs : List Value} {l : List En}, ECellsS w S xs l → ∀ u ∈ xs, u.oneCell' = true
  | _, _, _, [], h, u, hu => by rw [show _ = [] from h] at hu; cases hu
  | _, _, _, d :: l, ⟨v, ys, e, hk, h⟩, u, hu => by
    obtain ⟨a, c, rfl, _⟩ := hk
    rw [e] at hu
    simp only [List.mem_cons] at hu
    rcases hu with rfl | rfl | rfl | rfl | rfl | hu
    · rfl
    · rfl
    · rfl
    · rfl
    · rfl
    · exact ECellsS.one h u hu
theorem ECellsS.at : ∀ {w : World} {S : Nat → Prop} {xs : List Value} {l : List En} {i : Nat} {e : En}, ECellsS w S xs l → l[i]? = some e → ∃ s, xs[i * 5]? = some (.int .i64 e.a) ∧ xs[i * 5 + 1]? = some (.int .i64 e.b) ∧ xs[i * 5 + 2]? = some (.int .i64 e.k) ∧ xs[i * 5 + 3]? = some (.int .i64 e.n) ∧ xs[i * 5 + 4]? = some s ∧ KidsS w S s e.ks
  | _, _, _, [], _, _, _, he => by simp at he
  | _, _, _, d :: l, 0, e, ⟨v, ys, hx, hk, h⟩, he => by
    simp at he; subst he
    rw [hx]
    exact ⟨v, rfl, rfl, rfl, rfl, rfl, hk⟩
  | _, _, _, d :: l, i + 1, e, ⟨v, ys, hx, hk, h⟩, he => by
    obtain ⟨s, h0, h1, h2, h3, h4, h5⟩ := ECellsS.at h (i := i) (e := e) (by simpa using he)
    refine ⟨s, ?_⟩
    rw [hx, show (i + 1) * 5 = i * 5 + 5 by omega, show i * 5 + 5 + 1 = i * 5 + 1 + 5 by omega, show i * 5 + 5 + 2 = i * 5 + 2 + 5 by omega, show i * 5 + 5 + 3 = i * 5 + 3 + 5 by omega, show i * 5 + 5 + 4 = i * 5 + 4 + 5 by omega]
    exact ⟨by simpa using h0, by simpa using h1, by simpa using h2, by simpa using h3, by simpa using h4, h5⟩
/-- The blocks from F on, but for a row's own. -/
def offE (F : Nat) (w : World) (v : Value) (b : Nat) : Prop := F ≤ b ∧ b < w.heap.size ∧ v.ownBlock ≠ some b
/-- A row of entries of the call's own; the kids lie anywhere but in it; all of it from F on. -/
def OwnK (w : World) (F : Nat) (v : Value) (l : List En) : Prop := ∃ xs, w.ownsRow F 44 5 v l.length xs ∧ ECellsS w (offE F w v) xs l
theorem OwnK.nil (w : World) (F : Nat) : OwnK w F (.slice none 0 0) [] := ⟨[], World.ownsRow_nil w F 44 5, rfl⟩
theorem OwnK.below {w w' : World} {F : Nat} {v : Value} {l : List En} (h : OwnK w F v l) (hb : Below w.heap.size w w') : OwnK w' F v l := by
  obtain ⟨xs, h1, h2⟩ := h
  exact ⟨xs, World.ownsRow.kept h1 (row := none) ⟨hb.os, hb.tape, hb.output, hb.size, fun i hi _ => hb.block i hi⟩ (by
    by_cases hn : v.ownBlock = none
    · exact .inl hn
    · exact .inr hn), h2.carry (fun b ⟨h3, h4, h5⟩ => ⟨⟨h3, Nat.lt_of_lt_of_le h4 hb.size, h5⟩, hb.block b h4⟩)⟩
/-- What leaves the blocks from F on as they are. -/
theorem OwnK.keep {w w' : World} {F : Nat} {v : Value} {l : List En} (h : OwnK w F v l) (hb : Below 0 w w') (hk : ∀ k, F ≤ k → k < w.heap.size → w'.heap[k]? = w.heap[k]?) : OwnK w' F v l := by
  obtain ⟨xs, h1, h2⟩ := h
  by_cases hn : v.ownBlock = none
  · refine ⟨xs, ⟨h1.1, ?_⟩, h2.carry (fun b ⟨h3, h4, h5⟩ => ⟨⟨h3, Nat.lt_of_lt_of_le h4 hb.size, h5⟩, hk b h3 h4⟩)⟩
    rcases h1.2 with h | ⟨g, cap, cur, rfl, _⟩
    · exact .inl h
    · cases hn
  · refine ⟨xs, ⟨h1.1, ?_⟩, h2.carry (fun b ⟨h3, h4, h5⟩ => ⟨⟨h3, Nat.lt_of_lt_of_le h4 hb.size, h5⟩, hk b h3 h4⟩)⟩
    rcases h1.2 with h | ⟨g, cap, cur, rfl, hF, hh, h5⟩
    · exact .inl h
    · refine .inr ⟨g, cap, cur, rfl, hF, ?_, h5⟩
      rw [hk g hF (Array.getElem?_eq_some_iff.1 hh).1]; exact hh
theorem OwnK.ownLe {w : World} {F : Nat} {v : Value} {l : List En} (h : OwnK w F v l) : ∀ i, v.ownBlock = some i → F ≤ i := fun i hi => by
  obtain ⟨xs, h1, h2⟩ := h
  exact (World.ownsRow.lt h1 i hi).1
theorem OwnK.ownLt {w : World} {F : Nat} {v : Value} {l : List En} (h : OwnK w F v l) : ∀ i, v.ownBlock = some i → i < w.heap.size := fun i hi => by
  obtain ⟨xs, h1, h2⟩ := h
  exact (World.ownsRow.lt h1 i hi).2
theorem OwnK.form {w : World} {F : Nat} {v : Value} {l : List En} (h : OwnK w F v l) : ∃ a c, v = .slice a l.length c ∧ l.length ≤ c ∧ c ≤ maxLen := by
  obtain ⟨xs, ⟨hl, h | ⟨g, cap, cur, rfl, hb, hh, hn, hm, hs, ht⟩⟩, h2⟩ := h
  · exact ⟨none, 0, by rw [h.1, h.2], by rw [h.2]; exact Nat.le_refl _, by unfold maxLen; omega⟩
  · exact ⟨_, cap, rfl, hn, hm⟩
/-- The row as one that is read. -/
theorem OwnK.rowN {w : World} {F : Nat} {v : Value} {l : List En} (h : OwnK w F v l) : RowN w w.heap.size v l := by
  obtain ⟨xs, ⟨hl, h | ⟨g, cap, cur, rfl, hb, hh, hn, hm, hs, ht⟩⟩, h2⟩ := h
  · obtain rfl := List.eq_nil_of_length_eq_zero h.2
    rw [h.1]
    exact RowN.nought _ _
  · refine ⟨_, cap, rfl, hn, hm, fun i e he => ?_⟩
    obtain ⟨s, h0, h1, h2', h3, h4, h5⟩ := h2.at he
    have hc : ∀ j u, xs[j]? = some u → w.cell? ⟨g, j, none⟩ = some u := fun j u hj => by
      rw [cell_of_row _ _ _ _ _ _ hh, ← Array.getElem?_toList]
      rw [← ht] at hj
      rw [List.getElem?_take] at hj
      split at hj
      · exact hj
      · cases hj
    exact ⟨g, 0, rfl, (Array.getElem?_eq_some_iff.1 hh).1, s, hc _ _ (by simpa using h0), hc _ _ (by simpa using h1), hc _ _ (by simpa using h2'), hc _ _ (by simpa using h3), hc _ _ (by simpa using h4), h5.to (fun b hb => hb.2.1)⟩
end Go.Proofs.YtafmiilkdhdngaaGreatDoor
