/- load: times. -/
import Derived.Test.YtfilbdmenlhoiaaGmp
import Derived.Test.YtfilbdmenlhoiaaSortl
import Derived.Maps.RangeWalk
namespace Go.Proofs.Ytfilbdmenlhoiaa
open Go.ChangeShapes Go.WideShapes Go.ChangeAt Go.RowKit
set_option linter.unusedVariables false
open Go.WideMaps Go.MapKept Go.WideElems Go.ChangeMaps
set_option linter.unusedSimpArgs false
/-- A map of ints, as values. -/
def iMap (l : List (Int × Int)) : List (Value × Value) := l.map fun p => (.int .i64 p.1, .int .i64 p.2)
theorem iMap_len (l : List (Int × Int)) : (iMap l).length = l.length := List.length_map ..
theorem iMap_get {l : List (Int × Int)} {j : Nat} {x : Value × Value} (h : (iMap l)[j]? = some x) : ∃ p : Int × Int, l[j]? = some p ∧ x = (.int .i64 p.1, .int .i64 p.2) := by
  unfold iMap at h
  rw [List.getElem?_map] at h
  obtain ⟨p, hp, rfl⟩ := Option.map_eq_some_iff.1 h
  exact ⟨p, hp, rfl⟩
/-- The maps of a row. -/
def MapsAt (w : World) (lim b : Nat) (ms : List (List (Int × Int))) : Prop := b < lim ∧ ∀ (i : Nat) m, ms[i]? = some m → ∃ G, w.cell? ⟨b, i, none⟩ = some (.map (some G)) ∧ G < lim ∧ w.heap[G]? = some (gMap (iMap m))
theorem MapsAt.below {w w' : World} {lim b : Nat} {ms : List (List (Int × Int))} (h : MapsAt w lim b ms) (hb : Below lim w w') : MapsAt w' lim b ms :=
  ⟨h.1, fun i m hm => by
    obtain ⟨G, h1, h2, h3⟩ := h.2 i m hm
    exact ⟨G, (hb.cell h.1).trans h1, h2, (hb.block G h2).trans h3⟩⟩
/-- The keys that have come. -/
def kcame (m : List (Int × Int)) (sn : List Nat) : List Int := sn.filterMap (fun j => m[j]?.map Prod.fst)
theorem kcame_snoc {m : List (Int × Int)} {sn : List Nat} {j : Nat} {p : Int × Int} (h : m[j]? = some p) : kcame m (sn ++ [j]) = kcame m sn ++ [p.1] := by
  unfold kcame; rw [List.filterMap_append]; simp [h]
theorem kcame_range (m : List (Int × Int)) : ∀ n, (List.range n).filterMap (fun j => m[j]?.map Prod.fst) = (m.map Prod.fst).take n
  | 0 => rfl
  | n + 1 => by
    rw [List.range_succ, List.filterMap_append, kcame_range m n, List.take_add_one]
    congr 1
    rw [List.getElem?_map]
    cases h : m[n]? <;> simp [h]
theorem kcame_all {m : List (Int × Int)} {sn : List Nat} (hd : sn.Nodup) (hl : ∀ j ∈ sn, j < m.length) (ha : ∀ j, j < m.length → j ∈ sn) : (kcame m sn).Perm (m.map Prod.fst) := by
  have hp : sn.Perm (List.range m.length) := by
    rw [List.perm_ext_iff_of_nodup hd List.nodup_range]
    intro a
    rw [List.mem_range]
    exact ⟨hl a, ha a⟩
  have h2 := hp.filterMap (fun j => m[j]?.map Prod.fst)
  have h3 : (List.range m.length).filterMap (fun j => m[j]?.map Prod.fst) = m.map Prod.fst := by
    rw [kcame_range, List.take_of_length_le (by simp)]
  rw [h3] at h2
  exact h2
theorem kcame_len {m : List (Int × Int)} {sn : List Nat} : (kcame m sn).length ≤ sn.length := List.length_filterMap_le ..
/-- The keys of all maps of a row. -/
def keysOf (ms : List (List (Int × Int))) : List Int := (ms.map (fun m => m.map Prod.fst)).flatten
theorem keysOf_take {ms : List (List (Int × Int))} {i : Nat} {m : List (Int × Int)} (h : ms[i]? = some m) : keysOf (ms.take (i + 1)) = keysOf (ms.take i) ++ m.map Prod.fst := by
  unfold keysOf
  rw [List.take_add_one, h]
  simp
theorem keysOf_le {ms : List (List (Int × Int))} {i : Nat} {m : List (Int × Int)} (h : ms[i]? = some m) : (keysOf (ms.take i)).length + m.length ≤ (keysOf ms).length := by
  have h1 := congrArg List.length (keysOf_take h)
  have h2 : keysOf ms = keysOf (ms.take (i + 1)) ++ keysOf (ms.drop (i + 1)) := by
    unfold keysOf
    rw [← List.flatten_append, ← List.map_append, List.take_append_drop]
  rw [h2, List.length_append, h1, List.length_append, List.length_map]
  omega
theorem perm_sorted {l m : List Int} (h : l.Perm m) : (l.mergeSort fun x y => decide (x ≤ y)) = (m.mergeSort fun x y => decide (x ≤ y)) := by
  have tr : ∀ a b c : Int, decide (a ≤ b) = true → decide (b ≤ c) = true → decide (a ≤ c) = true := fun a b c h1 h2 => by simp only [decide_eq_true_eq] at *; omega
  have to : ∀ a b : Int, (decide (a ≤ b) || decide (b ≤ a)) = true := fun a b => by simp only [Bool.or_eq_true, decide_eq_true_eq]; omega
  have hp : (l.mergeSort fun x y => decide (x ≤ y)).Perm (m.mergeSort fun x y => decide (x ≤ y)) := (List.mergeSort_perm l _).trans (h.trans (List.mergeSort_perm m _).symm)
  have s1 := List.pairwise_mergeSort tr to l
  have s2 := List.pairwise_mergeSort tr to m
  exact hp.eq_of_pairwise (fun a b _ _ h1 h2 => by simp only [decide_eq_true_eq] at h1 h2; omega) s1 s2
theorem owns_kept {w w' : World} {B : Nat} {E : TypeId} {k : IntKind} {v : Value} {ys : List Int} (h : Owns w B E k v ys) (hb : ∀ X, B ≤ X → X < w.heap.size → v.ownBlock = some X → w'.heap[X]? = w.heap[X]?) : Owns w' B E k v ys := by
  obtain ⟨h0, h1 | ⟨g, cap, cur, rfl, hB, hg, h3, h4, h5, h6⟩⟩ := h
  · exact ⟨h0, .inl h1⟩
  · exact ⟨h0, .inr ⟨g, cap, cur, rfl, hB, (hb g hB (g_lt hg) rfl).trans hg, h3, h4, h5, h6⟩⟩
theorem owns_cells {w : World} {B : Nat} {E : TypeId} {k : IntKind} {v : Value} {ys : List Int} (h : Owns w B E k v ys) {X : Nat} (hX : v.ownBlock = some X) : ∃ cur T fr, w.heap[X]? = some (.cells cur T fr) := by
  obtain ⟨h0, ⟨rfl, _⟩ | ⟨g, cap, cur, rfl, hB, hg, h3, h4, h5, h6⟩⟩ := h
  · cases hX
  · cases hX; exact ⟨_, _, _, hg⟩
theorem owns_own {w : World} {B : Nat} {E : TypeId} {k : IntKind} {v : Value} {ys : List Int} (h : Owns w B E k v ys) : ∀ X, v.ownBlock = some X → B ≤ X := by
  obtain ⟨h0, ⟨rfl, _⟩ | ⟨g, cap, cur, rfl, hB, hg, h3, h4, h5, h6⟩⟩ := h
  · intro X hX; cases hX
  · intro X hX; cases hX; exact hB
theorem info_int : (Try.prog.info? 3).map (fun i => (i.zero, i.size, i.bytes)) = some (some (.int .i64 0), 1, 8) := by kernel_rfl
/-- One number more, and what else is the same. -/
theorem append_onek {ops : Array Oper} {rest : List Oper} {o : Oper} {a : Act} {Q : Exit → Act → World → Prop} {W : World} {B : Nat} {v : Value} {ys : List Int} {y : Int}
    (hgd : o.guard = none) (s x : Operand)
    (ho : o.op = .call { callee := .builtin .append, args := #[s, x], argTypes := #[61, 61] }) (hs : a.eval s = v) (hown : Owns W B 3 .i64 v ys) (hx : a.eval x = .slice (some ⟨W.heap.size, 0, none⟩) 1 1) (hB : B ≤ W.heap.size) (hlen : ys.length < 17592186044415)
    (h : ∀ v' w', Owns w' B 3 .i64 v' (ys ++ [y]) → (W.alloc (.cells #[.int .i64 y] 3)).grownBy w' v.ownBlock → wpList Try.prog ops Q rest (a.put o.dst v') w') : wpList Try.prog ops Q (o :: rest) a (W.alloc (.cells #[.int .i64 y] 3)) := by
  obtain ⟨i0, hi, hz0, hz1, hz2⟩ := info_parts info_int
  refine wpList_append_own _ hgd s x 61 ho B 3 i0 (.int .i64 0) 1 8 Try.underlying61 hi hz0 hz1 hz2 rfl (by decide) v ys.length (ys.map (Value.int .i64)) hs (hown.alloc _) ⟨W.heap.size, 0, none⟩ 1 1 [.int .i64 y] hx rfl ?_ ?_ ?_ ?_ ?_ ?_
  · intro j u hj
    match j, hj with
    | 0, hj => simp at hj; subst hj; simp [Addr.add, go_sem]
  · intro u hu; simp at hu; subst hu; rfl
  · unfold maxLen; omega
  · omega
  · simp; omega
  · intro v' w' h1 h2 _
    exact h v' w' (owns_snoc h1) h2
set_option maxRecDepth 100000 in
set_option maxHeartbeats 8000000 in
theorem l_times (b : Nat) (ms : List (List (Int × Int))) (c : Nat) (W : World) (hM : MapsAt W W.heap.size b ms) (hn : ms.length ≤ 100) (hk : (keysOf ms).length ≤ 100000) :
    Calls Try.prog 23 #[.slice (some ⟨b, 0, none⟩) ms.length c] W fun e w' => ∃ v', e = .returned v' ∧ Owns w' W.heap.size 3 .i64 v' (Lib.compact ((keysOf ms).mergeSort fun x y => decide (x ≤ y))) ∧ Below W.heap.size W w' := by
  have HM := Lib.hid hM
  have HN := Lib.hid hn
  have HK := Lib.hid hk
  clear hM hn hk
  go_enter Try.func23, Try.ntmps23
  go_wp2_with fail
  go_loopw [9, 3] (fun x v wr => ∃ (i : Nat) (zs : List Int), x = .int .i64 i ∧ Hid (i ≤ ms.length) ∧ Hid (zs.Perm (keysOf (ms.take i))) ∧ Hid (Owns wr W.heap.size 3 .i64 v zs) ∧ Hid (Below W.heap.size W wr)) (fun x _ _ => ms.length - (match x with | .int _ n => n.toNat | _ => 0))
  case atStart => exact ⟨0, [], rfl, Lib.hid (Nat.zero_le _), Lib.hid (by simp [keysOf]), Lib.hid (Owns.nil _ _ _ _), Lib.hid (Below.refl _ _)⟩
  case round =>
    obtain ⟨i, zs, rfl, HI, HP, HO, HB⟩ := hrel
    by_cases hi : i < ms.length
    · obtain ⟨G, hc, hGl, hG⟩ := HM.out.2 i _ (List.getElem?_eq_getElem hi)
      have hc2 := (HB.out.cell HM.out.1).trans hc
      have hG2 := (HB.out.block G hGl).trans hG
      have hbl : b < wr.heap.size := by have := HM.out.1; have := HB.out.size; omega
      obtain ⟨vs, hvs⟩ : ∃ vs, vs = iMap ms[i] := ⟨_, rfl⟩
      rw [← hvs] at hG2
      have RG := run_range_map (P := Try.prog) wr 66 3 3 G (gEnts 0 vs).toArray vs.length Try.underlying66 hG2
      obtain ⟨r, hr⟩ : ∃ r, wr.heap.size = r := ⟨_, rfl⟩
      obtain ⟨w1, hw1⟩ : ∃ w1, wr.alloc (.mapIter (some G) vs.length #[] vs.length) = w1 := ⟨_, rfl⟩
      rw [hw1, hr] at RG
      have HI0 := Lib.hid (GIt.start hG2)
      rw [hw1, hr] at HI0
      have HB0 := Lib.hid (show Below wr.heap.size wr w1 by rw [← hw1]; exact (Below.refl _ _).alloc (Nat.le_refl _) _)
      have HR := Lib.hid (show W.heap.size ≤ r by have := HB.out.size; omega)
      have HO0 := Lib.hid (HO.out.below HB0.out)
      clear hc hG hG2 hw1
      go_wp2_with fail
      go_loopw [3] (fun x wq => ∃ (sn : List Nat) (ws : List Int), Hid (GIt wq r G vs sn) ∧ Hid (ws = zs ++ kcame ms[i] sn) ∧ Hid (Owns wq W.heap.size 3 .i64 x ws) ∧ Hid (Below W.heap.size W wq)) (fun _ wq => vs.length - gcnt wq r)
      case atStart => exact ⟨[], _, HI0, Lib.hid (by simp [kcame]), HO0, Lib.hid (HB.out.trans (HB0.out.mono HB.out.size))⟩
      case round =>
        obtain ⟨sn, ws, HIT, HW, HOW, HBW⟩ := hrel
        rcases HIT.out.next (P := Try.prog) 0 with ⟨hall, hrun⟩ | ⟨j, p, w2, hp, hj, hrun, hm2, hbo, hbb, hz2, hent⟩
        · have HP2 := Lib.hid (show ws.Perm (keysOf (ms.take (i + 1))) by
            rw [HW.out, keysOf_take (List.getElem?_eq_getElem hi)]
            refine List.Perm.append HP.out (kcame_all HIT.out.d (fun x hx => ?_) (fun x hx => ?_))
            · have := HIT.out.l x hx; rw [hvs, iMap_len] at this; exact this
            · exact hall x (by rw [hvs, iMap_len]; exact hx))
          clear hall
          have WR := Lib.hid (show wrap64 ((i : Int) + 1) = ((i + 1 : Nat) : Int) by have := HN.out; simp only [wrap64]; omega)
          go_wp2_with fail
          go_roundw
          case rel => exact ⟨i + 1, ws, by rw [WR.out], Lib.hid hi, HP2, HOW, HBW⟩
          case measure => simp [WR.out]; omega
        · obtain ⟨q, hq, rfl⟩ := iMap_get (hvs ▸ hp)
          have Hq := Lib.hid hq
          have HM2 := Lib.hid hm2
          have HBO := Lib.hid hbo
          have HBB := Lib.hid hbb
          have HZ2 := Lib.hid hz2
          have HV := Lib.hid hvs
          have LEN := Lib.hid (show ws.length < 17592186044415 by
            have h1 := HP.out.length_eq
            have h2 := keysOf_le (List.getElem?_eq_getElem hi)
            have h3 := kcame_len (m := ms[i]) (sn := sn)
            have h4 := gsn_len HIT.out.d HIT.out.l
            have h5 := HK.out
            rw [hvs, iMap_len] at h4
            rw [HW.out, List.length_append]
            omega)
          have OW2 := Lib.hid (show Owns w2 W.heap.size 3 .i64 u3 ws from owns_kept HOW.out (fun X _ hX hO => HBO.out X hX (fun e => by obtain ⟨_, _, _, h9⟩ := owns_cells HOW.out hO; rw [e, HIT.out.r] at h9; cases h9)))
          clear hq hm2 hbo hbb hz2 hj hp hvs
          simp only at hrun hent
          go_wp2_with (at_builtin; refine append_onek rfl _ _ rfl rfl OW2.out rfl ?_ LEN.out ?_; rotate_left; intro v3 w3 hO3 hg3)
          case refine_1 => have := HBW.out.size; have := HZ2.out; omega
          have hr2 := HIT.out.r
          have hrl := g_lt hr2
          have hz := HZ2.out
          have hne : u3.ownBlock ≠ some r := fun e => by obtain ⟨_, _, _, h9⟩ := owns_cells HOW.out e; rw [HIT.out.r] at h9; cases h9
          have hown := owns_own HOW.out
          have hWr := HBW.out.size
          have ha : Below w2.heap.size w2 (w2.alloc (.cells #[.int .i64 q.1] 3)) := (Below.refl _ _).alloc (Nat.le_refl _) _
          have HG3 := Lib.hid (show GIt w3 r G vs (sn ++ [j]) from HM2.out.but
            ((hg3.block r (by simp; omega) (fun e => hne e.symm)).trans (ha.block r (by omega)))
            ((hg3.block G (by simp; omega) (fun e => by have := hown G e.symm; omega)).trans (ha.block G (by omega))))
          go_roundw
          case rel =>
            refine ⟨sn ++ [j], ws ++ [q.1], HG3, Lib.hid (by rw [HW.out, kcame_snoc Hq.out, List.append_assoc]), Lib.hid hO3, Lib.hid ?_⟩
            exact ((HBW.out.trans (HBB.out _ (by have := HR.out; omega) (by omega))).trans (ha.mono (by omega))).grown hg3 (by simp; omega) (fun i hi => by have := hown i hi; omega)
          case measure =>
            rw [HG3.out.cnt, HIT.out.cnt, List.length_append, List.length_singleton]
            have := gsn_len HG3.out.d HG3.out.l
            rw [List.length_append, List.length_singleton] at this
            omega
    · have HE := Lib.hid (show i = ms.length by have := HI.out; omega)
      have HP2 := Lib.hid (show zs.Perm (keysOf ms) by have := HP.out; rw [HE.out, List.take_length] at this; exact this)
      have LEN := Lib.hid (show zs.length ≤ 100000 by rw [HP2.out.length_eq]; exact HK.out)
      have CS := Lib.hid (c_sort wr W.heap.size u3 zs HO.out (by have := LEN.out; omega))
      clear HI HP
      go_wp2_with fail
      refine CS.out.mono ?_
      rintro e w2 ⟨rfl, ho2, hb2, -⟩
      have HO2 := Lib.hid ho2
      have HB2 := Lib.hid (HB.out.trans hb2)
      have hl : (zs.mergeSort fun x y => decide (x ≤ y)).length = zs.length := List.length_mergeSort ..
      have CC := Lib.hid (c_compact w2 W.heap.size u3 _ (by rw [hl]; exact HO2.out) (by have := LEN.out; omega))
      clear ho2 hb2
      go_wp2_with fail
      refine CC.out.mono ?_
      rintro e w3 ⟨v3, rfl, ho3, hb3⟩
      have HO3 := Lib.hid ho3
      have HB3 := Lib.hid (HB2.out.trans hb3)
      clear ho3 hb3
      go_wp2_with fail
      go_ret
      exact ⟨_, rfl, by rw [← perm_sorted HP2.out]; exact HO3.out, HB3.out⟩
end Go.Proofs.Ytfilbdmenlhoiaa
