/- hist.Most of any row. -/
import Derived.Test.YtofgkhoemgimeaaHod
import Derived.Carry
namespace Go.Proofs.Ytofgkhoemgimeaa
open Go.ChangeShapes Go.WideShapes Go.ChangeAt Go.RowKit
set_option linter.unusedVariables false
open Go.WideMaps Go.MapKept Go.WideElems Go.ChangeMaps
set_option linter.unusedSimpArgs false
/-- One call more: what changes at which times. -/
def mstep (c : List (Int × Int)) (x : Ov) : List (Int × Int) :=
  if x.to = -1 then iput c x.fr (wrap64 (iget c x.fr + 1))
  else if x.to ≤ x.fr then c
  else iput (iput c x.fr (wrap64 (iget c x.fr + 1))) x.to (wrap64 (iget (iput c x.fr (wrap64 (iget c x.fr + 1))) x.to - 1))
def mTo (l : List Ov) : Nat → List (Int × Int)
  | 0 => []
  | i + 1 => match l[i]? with
    | some x => mstep (mTo l i) x
    | none => mTo l i
theorem mTo_succ {l : List Ov} {i : Nat} {x : Ov} (h : l[i]? = some x) : mTo l (i + 1) = mstep (mTo l i) x := by rw [mTo, h]
/-- A map at G, and a call of the round's own in block r. -/
structure QM (w W : World) (G r : Nat) (cs : Array Value) (c : List (Int × Int)) : Prop where
  g : w.heap[G]? = some (gMap (iMap c))
  c : IM c
  o : w.heap[r]? = some (.cells cs 41 (0, 0))
  b : Below G W w
  l : G < r
theorem QM.set1 {w W : World} {G r : Nat} {cs : Array Value} {c c' : List (Int × Int)} (h : QM w W G r cs c) (hc : IM c') : QM (setBlock w G (gMap (iMap c'))) W G r cs c' :=
  ⟨gs_at (g_lt h.g), hc, (gs_heap (by have := h.l; omega)).trans h.o, h.b.trans (gs_below (Nat.le_refl _)), h.l⟩
/-- Most of what is under way: at each time in turn. -/
def mF (c : List (Int × Int)) : List Int → Int → Int → Int
  | [], _, m => m
  | a :: T, u, m => mF c T (wrap64 (u + iget c a)) (max m (wrap64 (u + iget c a)))
def mTimes (l : List Ov) : List Int := ((mTo l l.length).map Prod.fst).mergeSort fun x y => decide (x ≤ y)
def mostN (l : List Ov) : Int := mF (mTo l l.length) (mTimes l) 0 0
set_option maxRecDepth 100000 in
set_option maxHeartbeats 16000000 in
theorem hist_most (l : List Ov) (v : Value) (lim : Nat) (W : World) (h : RowOv W lim v l) (hl : lim ≤ W.heap.size) (hn : l.length ≤ 10000) :
    Calls Try.prog 15 #[v] W fun e w' => e = .returned (.int .i64 (mostN l)) ∧ Below W.heap.size W w' := by
  obtain ⟨p, c, rfl, hp⟩ := id h
  have HP := Lib.hid hp
  have HL := Lib.hid hl
  have HN := Lib.hid hn
  obtain ⟨n, hnl⟩ : ∃ n, l.length = n := ⟨_, rfl⟩
  have HNL := Lib.hid hnl
  obtain ⟨D, hD⟩ : ∃ D, mostN l = D := ⟨_, rfl⟩
  have HD := Lib.hid hD
  rw [hD, hnl]
  clear h hp hl hn hnl hD
  obtain ⟨G, hG⟩ : ∃ G, W.heap.size = G := ⟨_, rfl⟩
  have HGW := Lib.hid hG
  obtain ⟨wa, hwa⟩ : ∃ wa, W.alloc (.map #[] 0) = wa := ⟨_, rfl⟩
  have HA := Lib.hid (show wa.heap[G]? = some (gMap (iMap [])) ∧ Below G W wa from by
    subst hG
    exact ⟨by rw [← hwa]; exact heap_alloc_new _ _, by rw [← hwa]; exact (Below.refl _ _).alloc (Nat.le_refl _) _⟩)
  have hmm := @run_makeMap Try.prog
  have HW := Lib.hid hwa
  rw [hG]
  clear hwa
  go_enter Try.func15, Try.ntmps15
  go_wp2_with fail
  go_loopw [15] (fun x wr => ∃ (i : Nat), x = .int .i64 i ∧ Hid (i ≤ n) ∧ Hid (wr.heap[G]? = some (gMap (iMap (mTo l i))) ∧ IM (mTo l i)) ∧ Hid ((mTo l i).length ≤ 2 * i) ∧ Hid (Below G W wr)) (fun x _ => n - (intOf x).toNat)
  case atStart =>
    rw [HW.out]
    exact ⟨0, rfl, Lib.hid (Nat.zero_le _), Lib.hid ⟨HA.out.1, IM.nil⟩, Lib.hid (by simp [mTo]), Lib.hid HA.out.2⟩
  case round =>
    obtain ⟨i, rfl, HI, HQ, HLN, HB⟩ := hrel
    obtain ⟨x1, rfl⟩ : ∃ w, w = wr := ⟨_, rfl⟩
    by_cases hi : i < n
    · have hi0 : (0 : Int) ≤ (i : Int) := by omega
      have hki : (i : Int) < (n : Int) := by omega
      have HIL := Lib.hid hi
      have WK := Lib.hid (show wrap64 ((i : Int) + 1) = ((i + 1 : Nat) : Int) by have := HN.out; have := HNL.out; simp only [wrap64]; omega)
      obtain ⟨x, hx⟩ : ∃ x, l[i]? = some x := ⟨_, List.getElem?_eq_getElem (by rw [HNL.out]; exact hi)⟩
      rcases HP.out with h0 | ⟨g1, o1, rfl, hg1, hc1⟩
      · have := HNL.out; rw [h0] at this; simp at this; omega
      have hBW : Below W.heap.size W x1 := by rw [HGW.out]; exact HB.out
      obtain ⟨cs, hva, hca⟩ := (hc1 i x hx).below HL.out hBW hg1
      obtain ⟨x2, hx2, r2, hb2, -⟩ := box_ov x1 hva.n
      have hGx : G < x1.heap.size := g_lt HQ.out.1
      have HQ2 := Lib.hid (show QM x2 W G x1.heap.size cs (mTo l i) from ⟨(hb2.block G hGx).trans HQ.out.1, HQ.out.2, r2, HB.out.trans (hb2.mono (by omega)), hGx⟩)
      have LDA := Lib.hid (show x1.rangeAt g1 (o1 + i * 19) cs.toList from ops_load hca)
      have NA := Lib.hid hva.n
      have OA := Lib.hid hva.o
      have OK := Lib.hid hva.ok
      have HX2 := Lib.hid hx2
      have FR := Lib.hid hva.fr
      have TO := Lib.hid hva.to
      have SP := Lib.hid (show mTo l (i + 1) = mstep (mTo l i) x from mTo_succ hx)
      have LP1 := Lib.hid (fun v => iput_len (mTo l i) x.fr v)
      have LP2 := Lib.hid (fun k v => iput_len (iput (mTo l i) x.fr (wrap64 (iget (mTo l i) x.fr + 1))) k v)
      generalize mTo l i = cc at *
      have c17 := cell_ov r2 hva.fr
      have c18 := cell_ov r2 hva.to
      clear hva hca r2 hb2 hx hi hc1 hx2 hBW hGx
      by_cases ht : x.to = -1
      · have hq : (x.to != -1) = false := by simp [ht]
        obtain ⟨L4, U4⟩ := im_look HQ2.out.c (k := x.fr) OK.out.fr x2 G HQ2.out.g
        replace U4 := U4 (wrap64 (iget cc x.fr + 1))
        obtain ⟨x3, hx3⟩ : ∃ w, setBlock x2 G (gMap (iMap (iput cc x.fr (wrap64 (iget cc x.fr + 1))))) = w := ⟨_, rfl⟩
        rw [hx3] at U4
        have HQ3 := Lib.hid (HQ2.out.set1 (HQ2.out.c.put OK.out.fr (wrap64 (iget cc x.fr + 1))))
        rw [hx3] at HQ3
        have d18 := cell_ov HQ3.out.o TO.out
        have QE : mstep cc x = iput cc x.fr (wrap64 (iget cc x.fr + 1)) := by unfold mstep; rw [if_pos ht]
        rw [QE] at SP
        clear hx3 ht QE
        go_wp2_with (first | refine wpl_op rfl _ rfl _ _ rfl NA.out LDA.out ?_ | refine wpl_new rfl _ _ rfl rfl rfl NA.out OA.out rfl HX2.out ?_)
        go_roundw
        case rel =>
          refine ⟨i + 1, by first | rw [WK.out] | simp, Lib.hid HIL.out, Lib.hid ?_, Lib.hid ?_, Lib.hid HQ3.out.b⟩
          · rw [SP.out]; exact ⟨HQ3.out.g, HQ3.out.c⟩
          · rw [SP.out]; have := HLN.out; have := LP1.out (wrap64 (iget cc x.fr + 1)); omega
        case measure => first | (rw [WK.out]; have := HIL.out; simp only [intOf]; omega) | (have := HIL.out; simp only [intOf]; omega)
      · have hq : (x.to != -1) = true := by simp [ht]
        by_cases hg : x.to ≤ x.fr
        · have QE : mstep cc x = cc := by unfold mstep; rw [if_neg ht, if_pos hg]
          rw [QE] at SP
          clear ht QE
          go_wp2_with (first | refine wpl_op rfl _ rfl _ _ rfl NA.out LDA.out ?_ | refine wpl_new rfl _ _ rfl rfl rfl NA.out OA.out rfl HX2.out ?_)
          go_roundw
          case rel =>
            refine ⟨i + 1, by first | rw [WK.out] | simp, Lib.hid HIL.out, Lib.hid ?_, Lib.hid ?_, Lib.hid HQ2.out.b⟩
            · rw [SP.out]; exact ⟨HQ2.out.g, HQ2.out.c⟩
            · rw [SP.out]; have := HLN.out; omega
          case measure => first | (rw [WK.out]; have := HIL.out; simp only [intOf]; omega) | (have := HIL.out; simp only [intOf]; omega)
        · have QE : mstep cc x = iput (iput cc x.fr (wrap64 (iget cc x.fr + 1))) x.to (wrap64 (iget (iput cc x.fr (wrap64 (iget cc x.fr + 1))) x.to - 1)) := by unfold mstep; rw [if_neg ht, if_neg hg]
          rw [QE] at SP
          obtain ⟨L4, U4⟩ := im_look HQ2.out.c (k := x.fr) OK.out.fr x2 G HQ2.out.g
          replace U4 := U4 (wrap64 (iget cc x.fr + 1))
          obtain ⟨x3, hx3⟩ : ∃ w, setBlock x2 G (gMap (iMap (iput cc x.fr (wrap64 (iget cc x.fr + 1))))) = w := ⟨_, rfl⟩
          rw [hx3] at U4
          have HQ3 := Lib.hid (HQ2.out.set1 (HQ2.out.c.put OK.out.fr (wrap64 (iget cc x.fr + 1))))
          rw [hx3] at HQ3
          have d18 := cell_ov HQ3.out.o TO.out
          obtain ⟨L5, U5⟩ := im_look HQ3.out.c (k := x.to) OK.out.to x3 G HQ3.out.g
          replace U5 := U5 (wrap64 (iget (iput cc x.fr (wrap64 (iget cc x.fr + 1))) x.to - 1))
          obtain ⟨x4, hx4⟩ : ∃ w, setBlock x3 G (gMap (iMap (iput (iput cc x.fr (wrap64 (iget cc x.fr + 1))) x.to (wrap64 (iget (iput cc x.fr (wrap64 (iget cc x.fr + 1))) x.to - 1))))) = w := ⟨_, rfl⟩
          rw [hx4] at U5
          have HQ4 := Lib.hid (HQ3.out.set1 (HQ3.out.c.put OK.out.to (wrap64 (iget (iput cc x.fr (wrap64 (iget cc x.fr + 1))) x.to - 1))))
          rw [hx4] at HQ4
          clear hx3 hx4 ht QE
          go_wp2_with (first | refine wpl_op rfl _ rfl _ _ rfl NA.out LDA.out ?_ | refine wpl_new rfl _ _ rfl rfl rfl NA.out OA.out rfl HX2.out ?_)
          go_roundw
          case rel =>
            refine ⟨i + 1, by first | rw [WK.out] | simp, Lib.hid HIL.out, Lib.hid ?_, Lib.hid ?_, Lib.hid HQ4.out.b⟩
            · rw [SP.out]; exact ⟨HQ4.out.g, HQ4.out.c⟩
            · rw [SP.out]; have := HLN.out; have := LP1.out (wrap64 (iget cc x.fr + 1)); have := LP2.out x.to (wrap64 (iget (iput cc x.fr (wrap64 (iget cc x.fr + 1))) x.to - 1)); omega
          case measure => first | (rw [WK.out]; have := HIL.out; simp only [intOf]; omega) | (have := HIL.out; simp only [intOf]; omega)
    · have e := (show i = n by have := HI.out; omega)
      subst e
      have hi : ¬ (i : Int) < (i : Int) := by omega
      obtain ⟨cc, hcc⟩ : ∃ cc, cc = mTo l i := ⟨_, rfl⟩
      rw [← hcc] at HQ HLN
      have HD2 := Lib.hid (show mF cc ((cc.map Prod.fst).mergeSort fun x y => decide (x ≤ y)) 0 0 = D by rw [← HD.out, mostN, mTimes, HNL.out, hcc])
      clear hcc
      obtain ⟨vs, hvs⟩ : ∃ vs, vs = iMap cc := ⟨_, rfl⟩
      have hG2 := HQ.out.1
      rw [← hvs] at hG2
      have RG := run_range_map (P := Try.prog) x1 72 3 3 G (gEnts 0 vs).toArray vs.length Try.underlying72 hG2
      obtain ⟨r, hr⟩ : ∃ r, x1.heap.size = r := ⟨_, rfl⟩
      obtain ⟨w1, hw1⟩ : ∃ w1, x1.alloc (.mapIter (some G) vs.length #[] vs.length) = w1 := ⟨_, rfl⟩
      rw [hw1, hr] at RG
      have HI0 := Lib.hid (GIt.start hG2)
      rw [hw1, hr] at HI0
      have HB0 := Lib.hid (show Below x1.heap.size x1 w1 by rw [← hw1]; exact (Below.refl _ _).alloc (Nat.le_refl _) _)
      have hGr : G < r := by rw [← hr]; exact g_lt HQ.out.1
      have HGR := Lib.hid hGr
      have HBZ := Lib.hid (HB.out.trans (HB0.out.mono (by rw [hr]; omega)))
      have HSZ := Lib.hid (show r < w1.heap.size from g_lt HI0.out.r)
      have HV := Lib.hid hvs
      clear hG2 hw1 HI hGr
      go_wp2_with fail
      go_loopw [6] (fun x wq => ∃ (sn : List Nat) (ws : List Int), Hid (GIt wq r G vs sn) ∧ Hid (ws = kcame cc sn) ∧ Hid (Owns wq (r + 1) 3 .i64 x ws) ∧ Hid (Below G W wq)) (fun _ wq => vs.length - gcnt wq r)
      case atStart => exact ⟨[], _, HI0, Lib.hid (by simp [kcame]), Lib.hid (Owns.nil _ _ _ _), HBZ⟩
      case round =>
        obtain ⟨sn, ws, HIT, HWS, HOW, HBW⟩ := hrel
        obtain ⟨wq, rfl⟩ : ∃ w, w = wr := ⟨_, rfl⟩
        have hvl : vs.length = cc.length := by rw [hvs, iMap_len]
        rcases HIT.out.next (P := Try.prog) 0 with ⟨hall, hrun⟩ | ⟨j, p, w2, hp, hj, hrun, hm2, hbo, hbb, hz2, hent⟩
        · have HP2 := Lib.hid (show ws.Perm (cc.map Prod.fst) by
            rw [HWS.out]
            refine kcame_all HIT.out.d (fun x hx => ?_) (fun x hx => ?_)
            · have := HIT.out.l x hx; rw [← hvl]; exact this
            · exact hall x (by rw [hvl]; exact hx))
          clear hall
          have LEN := Lib.hid (show ws.length ≤ 100000 by rw [HP2.out.length_eq, List.length_map]; have := HLN.out; have := HN.out; have := HNL.out; omega)
          have CS := Lib.hid (c_sort wq (r + 1) u6 ws HOW.out (by have := LEN.out; omega))
          have HGQ := Lib.hid HIT.out.g
          go_wp2_with fail
          refine CS.out.mono ?_
          rintro e w3 ⟨rfl, ho3, hb3, -⟩
          obtain ⟨T, hT⟩ : ∃ T, T = ws.mergeSort fun x y => decide (x ≤ y) := ⟨_, rfl⟩
          rw [← hT] at ho3
          have HD3 := Lib.hid (show mF cc (T.drop 0) 0 0 = D by rw [List.drop_zero, hT, perm_sorted HP2.out]; exact HD2.out)
          have HOK := Lib.hid (show ∀ k ∈ T, i64ok k from fun k hk => by
            rw [hT] at hk
            obtain ⟨q, hq, rfl⟩ := List.mem_map.1 (HP2.out.mem_iff.1 (List.mem_mergeSort.1 hk))
            exact HQ.out.2.r q hq)
          have HTL := Lib.hid (show T.length ≤ 100000 by rw [hT, List.length_mergeSort]; exact LEN.out)
          have HR3 := Lib.hid (show ∃ a3 c3, u6 = .slice a3 T.length c3 ∧ Reads .i64 w3 a3 T from by
            have hls : ws.length = T.length := by rw [hT, List.length_mergeSort]
            have ho4 : Owns w3 (r + 1) 3 .i64 u6 T := by first | exact ho3 | (rw [hls] at ho3; exact ho3)
            obtain ⟨a3, c3, h1, h2, -⟩ := ho4.shape
            exact ⟨a3, c3, h1, h2⟩)
          have HG3 := Lib.hid (show w3.heap[G]? = some (gMap (iMap cc)) by rw [← HV.out]; exact (hb3.block G (by have := HGR.out; omega)).trans HGQ.out)
          have HB3 := Lib.hid (HBW.out.trans (hb3.mono (by have := HGR.out; omega)))
          have HIM := Lib.hid HQ.out.2
          clear ho3 hb3 hT
          obtain ⟨a3, c3, hu2, hR3⟩ := HR3.out
          subst hu2
          have HRR := Lib.hid hR3
          clear hR3
          go_wp2_with fail
          go_loopw [57, 8, 9] (fun x un vm wz => ∃ (j : Nat) (u m : Int), x = .int .i64 j ∧ un = .int .i64 u ∧ vm = .int .i64 m ∧ Hid (j ≤ T.length) ∧ Hid (mF cc (T.drop j) u m = D) ∧ Hid (wz = w3)) (fun x _ _ _ => T.length - (intOf x).toNat)
          case atStart => exact ⟨0, 0, 0, rfl, rfl, rfl, Lib.hid (Nat.zero_le _), HD3, by first | exact Lib.hid rfl | exact Lib.hid trivial⟩
          case round =>
            obtain ⟨j, u, m, rfl, rfl, rfl, HJ, HF, HWZ⟩ := hrel
            obtain rfl := HWZ.out
            by_cases hj : j < T.length
            · have hj0 : (0 : Int) ≤ (j : Int) := by omega
              have hji : (j : Int) < (T.length : Int) := by omega
              have HJL := Lib.hid hj
              obtain ⟨k, hk⟩ : ∃ k, T[j]? = some k := ⟨_, List.getElem?_eq_getElem hj⟩
              obtain ⟨bb, oo, rfl, hcell⟩ : ∃ bb oo, a3 = some ⟨bb, oo, none⟩ ∧ wr.cell? ⟨bb, oo + j, none⟩ = some (.int .i64 k) := by
                rcases HRR.out with h9 | ⟨bb, oo, h9, h10, h11⟩
                · rw [h9] at hj; simp at hj
                · exact ⟨bb, oo, h9, by rw [h11 j hj]; simp [List.getD, hk]⟩
              have hok := HOK.out k (List.mem_of_getElem? hk)
              obtain ⟨L1, -⟩ := im_look HIM.out hok wr G HG3.out
              have HDR := Lib.hid (show T.drop j = k :: T.drop (j + 1) by rw [List.drop_eq_getElem_cons hj]; congr 1; rw [List.getElem?_eq_getElem hj] at hk; exact Option.some.inj hk)
              have WR := Lib.hid (show wrap64 ((j : Int) + 1) = ((j + 1 : Nat) : Int) by have := HTL.out; simp only [wrap64]; omega)
              have hF := HF.out
              rw [HDR.out, mF] at hF
              have HF2 := Lib.hid hF
              clear hF hk hok hj
              go_wp2_with fail
              go_roundw
              case rel => exact ⟨j + 1, _, _, by first | rw [WR.out] | simp, rfl, rfl, Lib.hid HJL.out, HF2, by first | exact Lib.hid rfl | exact Lib.hid trivial⟩
              case measure => first | (rw [WR.out]; have := HJL.out; simp only [intOf]; omega) | (have := HJL.out; simp only [intOf]; omega)
            · have hji : ¬ (j : Int) < (T.length : Int) := by omega
              have hF := HF.out
              rw [List.drop_of_length_le (by omega), mF] at hF
              subst hF
              clear hj
              go_wp2_with fail
              go_ret
              exact ⟨rfl, HB3.out⟩
        · obtain ⟨q, hq, rfl⟩ := iMap_get (hvs ▸ hp)
          have Hq := Lib.hid hq
          have HM2 := Lib.hid hm2
          have HBO := Lib.hid hbo
          have HBB := Lib.hid hbb
          have HZ2 := Lib.hid hz2
          have LEN := Lib.hid (show ws.length < 17592186044415 by
            have h3 := kcame_len (m := cc) (sn := sn)
            have h4 := gsn_len HIT.out.d HIT.out.l
            have h5 := HLN.out; have := HN.out; have := HNL.out
            rw [hvl] at h4
            rw [HWS.out]
            omega)
          have OW2 := Lib.hid (show Owns w2 (r + 1) 3 .i64 u6 ws from owns_kept HOW.out (fun X _ hX hO => HBO.out X hX (fun e => by obtain ⟨_, _, _, h9⟩ := owns_cells HOW.out hO; rw [e, HIT.out.r] at h9; cases h9)))
          clear hq hm2 hbo hbb hz2 hj hp hvl
          simp only at hrun hent
          go_wp2_with (at_builtin; refine append_onek rfl _ _ rfl rfl OW2.out rfl ?_ LEN.out ?_; rotate_left; intro v3 w3 hO3 hg3)
          case refine_1 => have := g_lt HIT.out.r; have := HZ2.out; omega
          have hr2 := HIT.out.r
          have hrl := g_lt hr2
          have hz := HZ2.out
          have hne : u6.ownBlock ≠ some r := fun e => by obtain ⟨_, _, _, h9⟩ := owns_cells HOW.out e; rw [HIT.out.r] at h9; cases h9
          have hown := owns_own HOW.out
          have hGr := HGR.out
          have ha : Below w2.heap.size w2 (w2.alloc (.cells #[.int .i64 q.1] 3)) := (Below.refl _ _).alloc (Nat.le_refl _) _
          have HG3 := Lib.hid (show GIt w3 r G vs (sn ++ [j]) from HM2.out.but
            ((hg3.block r (by simp; omega) (fun e => hne e.symm)).trans (ha.block r (by omega)))
            ((hg3.block G (by simp; omega) (fun e => by have := hown G e.symm; omega)).trans (ha.block G (by omega))))
          go_roundw
          case rel =>
            refine ⟨sn ++ [j], ws ++ [q.1], HG3, Lib.hid (by rw [HWS.out, kcame_snoc Hq.out]), Lib.hid hO3, Lib.hid ?_⟩
            exact ((HBW.out.trans (HBB.out _ (by omega) (by omega))).trans (ha.mono (by omega))).grown hg3 (by simp; omega) (fun i hi => by have := hown i hi; omega)
          case measure =>
            rw [HG3.out.cnt, HIT.out.cnt, List.length_append, List.length_singleton]
            have := gsn_len HG3.out.d HG3.out.l
            rw [List.length_append, List.length_singleton] at this
            omega
end Go.Proofs.Ytofgkhoemgimeaa
