/- Law 45: reference 45's Kind. -/
import Derived.Test.YtfilbdmenlhoiaaLhk
namespace Go.Proofs.Ytfilbdmenlhoiaa
open Go.ChangeShapes Go.WideShapes Go.ChangeAt Go.RowKit
set_option linter.unusedVariables false
set_option linter.unusedSimpArgs false
theorem flat_get : ∀ {css : List (Array Value)} {i k : Nat} {cs : Array Value} {v : Value}, (∀ d ∈ css, d.size = 19) → css[i]? = some cs → cs[k]? = some v → (css.map Array.toList).flatten[i * 19 + k]? = some v
  | [], i, k, cs, v, _, h, _ => by simp at h
  | d :: css, 0, k, cs, v, hs, h, hk => by
    simp at h; subst h
    have hl : k < d.toList.length := by rw [Array.length_toList]; exact (Array.getElem?_eq_some_iff.1 hk).1
    rw [List.map_cons, List.flatten_cons, Nat.zero_mul, Nat.zero_add, List.getElem?_append_left hl]
    simpa using hk
  | d :: css, i + 1, k, cs, v, hs, h, hk => by
    have hd : d.toList.length = 19 := by rw [Array.length_toList]; exact hs d (List.mem_cons_self ..)
    rw [List.getElem?_cons_succ] at h
    rw [List.map_cons, List.flatten_cons, List.getElem?_append_right (by omega), hd, show (i + 1) * 19 + k - 19 = i * 19 + k by omega]
    exact flat_get (fun e he => hs e (List.mem_cons_of_mem _ he)) h hk
theorem set_fold : ∀ (l : List Value) (n : Nat) (z : Array Value), ((l.zipIdx n).foldl (fun a x => a.setIfInBounds x.2 x.1) z).size = z.size ∧ ∀ i, ((l.zipIdx n).foldl (fun a x => a.setIfInBounds x.2 x.1) z)[i]? = if n ≤ i ∧ i < n + l.length ∧ i < z.size then l[i - n]? else z[i]?
  | [], n, z => ⟨rfl, fun i => by rw [if_neg (by simp; omega)]; rfl⟩
  | v :: l, n, z => by
    obtain ⟨h1, h2⟩ := set_fold l (n + 1) (z.setIfInBounds n v)
    rw [List.zipIdx_cons, List.foldl_cons]
    refine ⟨by rw [h1]; simp, fun i => ?_⟩
    rw [h2 i]
    simp only [Array.size_setIfInBounds, List.length_cons]
    by_cases hi : i = n
    · subst hi
      rw [if_neg (by omega), Array.getElem?_setIfInBounds, if_pos rfl]
      by_cases hz : i < z.size
      · rw [if_pos hz, if_pos (by omega), Nat.sub_self]; rfl
      · rw [if_neg hz, if_neg (by omega), Array.getElem?_eq_none (by omega)]
    · have hg : (z.setIfInBounds n v)[i]? = z[i]? := by rw [Array.getElem?_setIfInBounds, if_neg (fun e => hi e.symm)]
      rw [hg]
      by_cases hc : n ≤ i ∧ i < n + (l.length + 1) ∧ i < z.size
      · rw [if_pos (by omega), if_pos hc, show i - n = (i - (n + 1)) + 1 by omega, List.getElem?_cons_succ]
      · rw [if_neg (by omega), if_neg hc]
theorem set_all {z cs : Array Value} (h : z.size = cs.size) : Array.foldl (fun a x => a.setIfInBounds x.2 x.1) z cs.zipIdx 0 cs.size = cs := by
  have e : Array.foldl (fun a x => a.setIfInBounds x.2 x.1) z cs.zipIdx 0 cs.size = (cs.toList.zipIdx 0).foldl (fun a x => a.setIfInBounds x.2 x.1) z := by
    have h9 : cs.size = cs.zipIdx.size := by simp
    rw [h9, ← Array.foldl_toList]
    simp
  rw [e]
  obtain ⟨h1, h2⟩ := set_fold cs.toList 0 z
  apply Array.ext_getElem?
  intro i
  rw [h2 i]
  by_cases hi : i < cs.size
  · rw [if_pos ⟨Nat.zero_le _, by simpa using hi, by omega⟩]; simp
  · rw [if_neg (by simp; omega), Array.getElem?_eq_none (by omega), Array.getElem?_eq_none (by omega)]
/-- A call more, as the walk lays it. -/
theorem append_op {ops : Array Oper} {rest : List Oper} {o : Oper} {a : Act} {Q : Exit → Act → World → Prop} {W : World} {B : Nat} {v : Value} {n : Nat} {xs : List Value} {z cs : Array Value} (hgd : o.guard = none) (s x : Operand)
    (ho : o.op = .call { callee := .builtin .append, args := #[s, x], argTypes := #[28, 28] }) (hs : a.eval s = v) (hown : W.ownsRow B 51 19 v n xs) (hx : a.eval x = .slice (some ⟨W.heap.size, 0, none⟩) 1 1) (hz : z.size = 19) (hl : cs.size = 19) (h1 : cs.all (·.oneCell') = true)
    (hBn : B ≤ W.heap.size ∧ n < 1000000) {N : Nat} (hN : N = cs.size)
    (h : ∀ v' w', w'.ownsRow B 51 19 v' (n + 1) (xs ++ cs.toList) → Below B W w' → wpList Try.prog ops Q rest (a.put o.dst v') w') : wpList Try.prog ops Q (o :: rest) a (W.alloc (.cells (Array.foldl (fun a x => a.setIfInBounds x.2 x.1) z cs.zipIdx 0 N) 51)) := by
  subst hN
  rw [set_all (by omega)]
  exact append_big Try.underlying28 (bys := 216) (by kernel_rfl) (by decide) (by decide) hgd s x ho hs hown hx hBn.1 hBn.2 hl h1 h
/-- An own growing row of calls. -/
def OwnO (w : World) (B : Nat) (v : Value) (l : List Oi) : Prop := ∃ css : List (Array Value), w.ownsRow B 51 19 v css.length (css.map Array.toList).flatten ∧ css.length = l.length ∧ ∀ (i : Nat) (cs : Array Value) (x : Oi), css[i]? = some cs → l[i]? = some x → OpV cs x.who x.kind x.e x.f x.t
theorem OwnO.nil (w : World) (B : Nat) : OwnO w B (.slice none 0 0) [] := ⟨[], World.ownsRow_nil w B _ 19, rfl, fun i cs x h => by simp at h⟩
theorem OwnO.rowO {w : World} {B : Nat} {v : Value} {l : List Oi} (h : OwnO w B v l) : RowO w w.heap.size v l := by
  obtain ⟨css, ⟨hl0, h1⟩, hl, hv⟩ := h
  rcases h1 with ⟨rfl, h2⟩ | ⟨g, cap, cur, rfl, hb, hh, hn, hm, hs, ht⟩
  · have : l = [] := List.length_eq_zero_iff.1 (by omega)
    subst this
    exact ⟨none, 0, rfl, Nat.le_refl _, by omega, .inl rfl⟩
  · refine ⟨some ⟨g, 0, none⟩, cap, by rw [hl], by omega, by unfold maxLen at hm; omega, .inr ⟨g, 0, rfl, g_lt hh, fun i x hx => ?_⟩⟩
    obtain ⟨cs, hcs⟩ : ∃ cs, css[i]? = some cs := ⟨_, List.getElem?_eq_getElem (by have := (List.getElem?_eq_some_iff.1 hx).1; omega)⟩
    have hsz : ∀ d ∈ css, d.size = 19 := fun d hd => by
      obtain ⟨j, hj⟩ := List.mem_iff_getElem?.1 hd
      obtain ⟨y, hy⟩ : ∃ y, l[j]? = some y := ⟨_, List.getElem?_eq_getElem (by have := (List.getElem?_eq_some_iff.1 hj).1; omega)⟩
      exact (hv j d y hj hy).n
    refine ⟨cs, hv i cs x hcs hx, fun k u hk => ?_⟩
    have h9 := flat_get hsz hcs hk
    rw [← ht] at h9
    rw [cell_of_row _ _ _ _ _ _ hh, ← Array.getElem?_toList, Nat.zero_add]
    rw [List.getElem?_take] at h9
    split at h9
    · exact h9
    · cases h9
/-- The kind of a call, as the document counts. -/
def kf (x : Oi) : Int := if x.kind < 1 ∨ 7 < x.kind then 0 else x.kind
theorem op_info : (Try.prog.info? 51).map (fun i => (i.zero.map (fun z => z.cells.size), i.size, i.bytes)) = some (some 19, 19, 216) := by kernel_rfl
theorem flat_snoc (css : List (Array Value)) (cs : Array Value) : ((css ++ [cs]).map Array.toList).flatten = (css.map Array.toList).flatten ++ cs.toList := by simp
theorem filt_succ {l : List Oi} {i : Nat} {x : Oi} (h : l[i]? = some x) (k : Int) : (l.take (i + 1)).filter (fun y => decide (kf y = k)) = (l.take i).filter (fun y => decide (kf y = k)) ++ (if kf x = k then [x] else []) := by
  rw [List.take_add_one, h, List.filter_append]
  by_cases hk : kf x = k <;> simp [hk]
theorem filt_le (l : List Oi) (k : Int) (i : Nat) : ((l.take i).filter (fun y => decide (kf y = k))).length ≤ i :=
  Nat.le_trans (List.length_filter_le ..) (by rw [List.length_take]; omega)
theorem OwnO.snoc {w' : World} {B : Nat} {v' : Value} {l : List Oi} {x : Oi} {css : List (Array Value)} {cs : Array Value} (hl : css.length = l.length) (hv : ∀ (i : Nat) (cs : Array Value) (x : Oi), css[i]? = some cs → l[i]? = some x → OpV cs x.who x.kind x.e x.f x.t) (hx : OpV cs x.who x.kind x.e x.f x.t)
    (ho : w'.ownsRow B 51 19 v' (css.length + 1) ((css.map Array.toList).flatten ++ cs.toList)) : OwnO w' B v' (l ++ [x]) := by
  refine ⟨css ++ [cs], by rw [flat_snoc, List.length_append, List.length_singleton]; exact ho, by simp [hl], fun i d y hd hy => ?_⟩
  by_cases h : i < css.length
  · rw [List.getElem?_append_left h] at hd
    rw [List.getElem?_append_left (by omega)] at hy
    exact hv i d y hd hy
  · have hi : i = css.length := by
      have := (List.getElem?_eq_some_iff.1 hd).1
      simp at this; omega
    subst hi
    rw [List.getElem?_append_right (Nat.le_refl _), Nat.sub_self] at hd
    rw [hl, List.getElem?_append_right (Nat.le_refl _), Nat.sub_self] at hy
    simp at hd hy
    subst hd hy
    exact hx
set_option maxRecDepth 100000 in
set_option maxHeartbeats 8000000 in
theorem r45_kind (v : Value) (l : List Oi) (k : Int) (lim : Nat) (W : World) (hR : RowO W lim v l) (hlim : lim ≤ W.heap.size) (hn : l.length ≤ 10000) :
    Calls Try.prog 12 #[v, .int .i64 k] W fun e w' => ∃ v', e = .returned v' ∧ OwnO w' W.heap.size v' (l.filter (fun y => decide (kf y = k))) ∧ Below W.heap.size W w' := by
  have HR := Lib.hid hR
  obtain ⟨p, c, rfl, -⟩ := hR
  have HN := Lib.hid hn
  have HL := Lib.hid hlim
  clear hn hlim
  go_enter Try.func12, Try.ntmps12
  go_wp2_with fail
  go_loopw [6, 5] (fun x u wr => ∃ (i : Nat), x = .int .i64 i ∧ Hid (i ≤ l.length) ∧ Hid (OwnO wr W.heap.size u ((l.take i).filter (fun y => decide (kf y = k)))) ∧ Hid (Below W.heap.size W wr)) (fun x _ _ => l.length - (match x with | .int _ n => n.toNat | _ => 0))
  case atStart => exact ⟨0, rfl, Lib.hid (Nat.zero_le _), Lib.hid (OwnO.nil _ _), Lib.hid (Below.refl _ _)⟩
  case round =>
    obtain ⟨i, rfl, HI, HO, HB⟩ := hrel
    by_cases hi : i < l.length
    · obtain ⟨x, hx⟩ : ∃ x, l[i]? = some x := ⟨_, List.getElem?_eq_getElem hi⟩
      obtain ⟨b, o, cs, rfl, hbl, hv, hc⟩ := (HR.out.below (HB.out.mono HL.out)).get hx
      have hbl2 : b < wr.heap.size := by have := HL.out; have := HB.out.size; omega
      have LD := Lib.hid (ops_load hc)
      have c2 := hc 2 _ hv.hk
      have HV := Lib.hid hv
      have FS := Lib.hid (filt_succ hx k)
      have FL := Lib.hid (filt_le l k i)
      have WR := Lib.hid (show wrap64 ((i : Int) + 1) = ((i + 1 : Nat) : Int) by have := HN.out; simp only [wrap64]; omega)
      have KF := Lib.hid (show kf x = if x.kind < 1 ∨ 7 < x.kind then 0 else x.kind from rfl)
      obtain ⟨css, hoo, hcl, hcv⟩ := HO.out
      have HOO := Lib.hid hoo
      have HCL := Lib.hid hcl
      have hsz := HV.out.n
      have HBN := Lib.hid (show W.heap.size ≤ wr.heap.size ∧ css.length < 1000000 from ⟨HB.out.size, by have := FL.out; have := HN.out; omega⟩)
      have HCV := Lib.hid hcv
      clear hx hc hv hoo hcl hcv
      by_cases h1 : x.kind < 1
      · skip
        have HK0 := Lib.hid (show kf x = (0 : Int) by rw [KF.out, if_pos (.inl h1)])
        by_cases hk : k = (0 : Int)
        · have hd : ((0 : Int) == k) = true := by simp [hk]
          have HKF := Lib.hid (show kf x = k by rw [HK0.out]; omega)
          clear hk
          go_wp2_with (first | refine wpl_op rfl _ rfl _ _ rfl HV.out.n LD.out ?_ | (at_builtin; refine append_op rfl _ _ rfl rfl HOO.out rfl rfl HV.out.n HV.out.o HBN.out (by first | rfl | exact HV.out.n.symm) ?_; intro v3 w3 hO3 hb3))
          go_roundw
          case rel =>
            refine ⟨i + 1, by rw [WR.out], Lib.hid hi, Lib.hid ?_, Lib.hid (HB.out.trans hb3)⟩
            rw [FS.out, if_pos HKF.out]
            exact OwnO.snoc HCL.out HCV.out HV.out hO3
          case measure => simp [WR.out]; omega
        · have hd : ((0 : Int) == k) = false := by simp; omega
          have HKF := Lib.hid (show ¬ kf x = k by rw [HK0.out]; omega)
          clear hk
          go_wp2_with fail
          go_roundw
          case rel =>
            refine ⟨i + 1, by rw [WR.out], Lib.hid hi, Lib.hid ?_, HB⟩
            rw [FS.out, if_neg HKF.out, List.append_nil]
            exact HO.out
          case measure => simp [WR.out]; omega
      · by_cases h7 : 7 < x.kind
        · skip
          have HK0 := Lib.hid (show kf x = (0 : Int) by rw [KF.out, if_pos (.inr h7)])
          by_cases hk : k = (0 : Int)
          · have hd : ((0 : Int) == k) = true := by simp [hk]
            have HKF := Lib.hid (show kf x = k by rw [HK0.out]; omega)
            clear hk
            go_wp2_with (first | refine wpl_op rfl _ rfl _ _ rfl HV.out.n LD.out ?_ | (at_builtin; refine append_op rfl _ _ rfl rfl HOO.out rfl rfl HV.out.n HV.out.o HBN.out (by first | rfl | exact HV.out.n.symm) ?_; intro v3 w3 hO3 hb3))
            go_roundw
            case rel =>
              refine ⟨i + 1, by rw [WR.out], Lib.hid hi, Lib.hid ?_, Lib.hid (HB.out.trans hb3)⟩
              rw [FS.out, if_pos HKF.out]
              exact OwnO.snoc HCL.out HCV.out HV.out hO3
            case measure => simp [WR.out]; omega
          · have hd : ((0 : Int) == k) = false := by simp; omega
            have HKF := Lib.hid (show ¬ kf x = k by rw [HK0.out]; omega)
            clear hk
            go_wp2_with fail
            go_roundw
            case rel =>
              refine ⟨i + 1, by rw [WR.out], Lib.hid hi, Lib.hid ?_, HB⟩
              rw [FS.out, if_neg HKF.out, List.append_nil]
              exact HO.out
            case measure => simp [WR.out]; omega
        · skip
          have HK0 := Lib.hid (show kf x = x.kind by rw [KF.out, if_neg (fun e => e.elim h1 h7)])
          by_cases hk : x.kind = k
          · have hd : (x.kind == k) = true := by simp [hk]
            have HKF := Lib.hid (show kf x = k by rw [HK0.out]; omega)
            clear hk
            go_wp2_with (first | refine wpl_op rfl _ rfl _ _ rfl HV.out.n LD.out ?_ | (at_builtin; refine append_op rfl _ _ rfl rfl HOO.out rfl rfl HV.out.n HV.out.o HBN.out (by first | rfl | exact HV.out.n.symm) ?_; intro v3 w3 hO3 hb3))
            go_roundw
            case rel =>
              refine ⟨i + 1, by rw [WR.out], Lib.hid hi, Lib.hid ?_, Lib.hid (HB.out.trans hb3)⟩
              rw [FS.out, if_pos HKF.out]
              exact OwnO.snoc HCL.out HCV.out HV.out hO3
            case measure => simp [WR.out]; omega
          · have hd : (x.kind == k) = false := by simp [hk]
            have HKF := Lib.hid (show ¬ kf x = k by rw [HK0.out]; omega)
            clear hk
            go_wp2_with fail
            go_roundw
            case rel =>
              refine ⟨i + 1, by rw [WR.out], Lib.hid hi, Lib.hid ?_, HB⟩
              rw [FS.out, if_neg HKF.out, List.append_nil]
              exact HO.out
            case measure => simp [WR.out]; omega
    · have h9 := (show i = l.length by have := HI.out; omega)
      subst h9
      have hi : ¬ l.length < l.length := by omega
      go_wp2_with fail
      go_ret
      exact ⟨_, rfl, by have := HO.out; rw [List.take_length] at this; exact this, HB.out⟩
end Go.Proofs.Ytfilbdmenlhoiaa
