/- conv.Linear: a range over a function, products of two rows. -/
import Derived.RangeFuncNested
import Derived.RangeFuncBound
import Derived.RangeFuncCalls
import Derived.RangeFuncLeaves
import Derived.Shelf.Abstract
import Derived.Shelf.RegionOpen
import Derived.WalkKit
import Derived.OwnWalkIn
import Derived.TacticsInMore
import Derived.LoopNIn
import Derived.LoopIn
import Derived.Test.YtkijiljipacfjaaConv
namespace Go.Proofs.Ytkijiljipacfjaa
open Go.ChangeShapes Go.WideShapes Go.ChangeAt Go.RowKit
set_option linter.unusedVariables false
open Go.Shelf
attribute [local go_sem] Oper.semAt_some
/-- What the pairs gone through add to place k. -/
def accp (xs ys : List Int) (l : List (Nat × Nat)) (k : Nat) : Int := l.foldl (fun s p => if p.1 + p.2 = k then fm (s + fm (xs.getD p.1 0 * ys.getD p.2 0)) else s) 0
theorem accp_snoc (xs ys : List Int) (l : List (Nat × Nat)) (p : Nat × Nat) (k : Nat) : accp xs ys (l ++ [p]) k = if p.1 + p.2 = k then fm (accp xs ys l k + fm (xs.getD p.1 0 * ys.getD p.2 0)) else accp xs ys l k := by
  unfold accp; rw [List.foldl_append]; rfl
theorem accp_b (xs ys : List Int) (k : Nat) (l : List (Nat × Nat)) : 0 ≤ accp xs ys l k ∧ accp xs ys l k ≤ 18446744069414584320 := by
  have : ∀ (l : List (Nat × Nat)) (s : Int), 0 ≤ s ∧ s ≤ 18446744069414584320 → 0 ≤ l.foldl (fun s p => if p.1 + p.2 = k then fm (s + fm (xs.getD p.1 0 * ys.getD p.2 0)) else s) s ∧ l.foldl (fun s p => if p.1 + p.2 = k then fm (s + fm (xs.getD p.1 0 * ys.getD p.2 0)) else s) s ≤ 18446744069414584320 := by
    intro l
    induction l with
    | nil => intro s h; exact h
    | cons p r ih =>
      intro s h
      refine ih _ ?_
      dsimp only
      split
      · exact ⟨fm_lo _, fm_hi _⟩
      · exact h
  exact this l 0 (by omega)
def rowp (i : Nat) : Nat → List (Nat × Nat)
  | 0 => []
  | j + 1 => rowp i j ++ [(i, j)]
def allp (m : Nat) : Nat → List (Nat × Nat)
  | 0 => []
  | i + 1 => allp m i ++ rowp i m
theorem rowp_len (i : Nat) : ∀ j, (rowp i j).length = j
  | 0 => rfl
  | j + 1 => by rw [rowp, List.length_append, rowp_len i j]; rfl
theorem allp_len (m : Nat) : ∀ i, (allp m i).length = i * m
  | 0 => by simp [allp]
  | i + 1 => by rw [allp, List.length_append, allp_len m i, rowp_len, Nat.succ_mul]
theorem accp_row (xs ys : List Int) (l : List (Nat × Nat)) (i k : Nat) : ∀ j, accp xs ys (l ++ rowp i j) k = if i ≤ k ∧ k - i < j then fm (accp xs ys l k + fm (xs.getD i 0 * ys.getD (k - i) 0)) else accp xs ys l k
  | 0 => by rw [rowp, List.append_nil, if_neg (by omega)]
  | j + 1 => by
    rw [rowp, ← List.append_assoc, accp_snoc, accp_row xs ys l i k j]
    dsimp only
    by_cases e : i + j = k
    · subst e
      rw [if_pos rfl, if_neg (by omega), if_pos (by omega), show i + j - i = j by omega]
    · rw [if_neg e]
      by_cases h : i ≤ k ∧ k - i < j
      · rw [if_pos h, if_pos (by omega)]
      · rw [if_neg h, if_neg (by omega)]
theorem accp_all (xs ys : List Int) (k : Nat) : ∀ i, accp xs ys (allp ys.length i) k = lsn xs ys i k
  | 0 => rfl
  | i + 1 => by
    rw [allp, accp_row, accp_all xs ys k i, lsn]
/-- What a round keeps: all below n₀, and the second box. -/
def KpB (n₀ B2 : Nat) (A C : World) : Prop := Below n₀ A C ∧ ∀ v, A.cell? ⟨B2, 0, none⟩ = some v → C.cell? ⟨B2, 0, none⟩ = some v
theorem kpB_t {n₀ B2 : Nat} {A B C : World} (h : KpB n₀ B2 A B) (k : KpB n₀ B2 B C) : KpB n₀ B2 A C := ⟨h.1.trans k.1, fun v hv => k.2 v (h.2 v hv)⟩
theorem kpB_refl (n₀ B2 : Nat) (A : World) : KpB n₀ B2 A A := ⟨Below.refl _ _, fun _ h => h⟩
theorem kpB_b {n₀ B2 : Nat} {w : World} (hn : n₀ ≤ w.heap.size) (hB : B2 < w.heap.size) (W : World) (l : Nat) (o o' : Obj) (hl : w.heap.size ≤ l) (h : W.heap[l]? = some o) (h1 : o.isCells = false) (h2 : o.isWalk = false) : KpB n₀ B2 W (W.putObj l o') :=
  ⟨belowK_b (w := w) hn W l o o' hl h h1 h2, fun v hv => cell_kept hv (grownBy_putObj' W l o') (fun r e => by cases e; exact ⟨o, h, h1⟩)⟩
theorem below_grown0 {w w' : World} (h : Below w.heap.size w w') : w.grownBy w' none := ⟨h.os, h.tape, h.output, h.size, fun k hk _ => h.block k hk⟩
/-- A pair, as the loop's body has it. -/
def pI {n m : Nat} (x : Fin n × Fin m) : Int := (x.1.val : Int) + (x.2.val : Int)
def pV (xs ys : List Int) {n m : Nat} (x : Fin n × Fin m) : Int := fm (xs.getD x.1.val 0 * ys.getD x.2.val 0)
def encp (xs ys : List Int) {n m : Nat} (x : Fin n × Fin m) : Array Value := #[.int .i64 (pI x), .int .u64 (pV xs ys x)]
def valp {n m : Nat} (l : List (Fin n × Fin m)) : List (Nat × Nat) := l.map fun x => (x.1.val, x.2.val)
theorem valp_snoc {n m : Nat} (l : List (Fin n × Fin m)) (x : Fin n × Fin m) : valp (l ++ [x]) = valp l ++ [(x.1.val, x.2.val)] := by unfold valp; simp
theorem valp_len {n m : Nat} (l : List (Fin n × Fin m)) : (valp l).length = l.length := by unfold valp; simp
set_option maxRecDepth 100000 in
set_option maxHeartbeats 2000000 in
theorem conv_prod1 (g : Nat) (hg : 1 ≤ g) (l B1 B2 n₀ n m cx cy : Nat) (px py : Option Addr) (xs ys : List Int) (hn : n ≤ 5000) (hm : m ≤ 5000) (J Jx : List (Fin n × Fin m) → World → Prop)
    (hJ : ∀ pre A C, J pre A → Below A.heap.size A C → J pre C)
    (hY : ∀ pre x W, J pre W → pre.length < n * m → YieldAt Fence.wide (g - 1) Try.prog l (encp xs ys x) W fun e W' =>
      (e = .returned (.bool true) ∧ J (pre ++ [x]) W' ∧ KpB n₀ B2 W W') ∨ (e = .returned (.bool false) ∧ Jx (pre ++ [x]) W'))
    (W : World) (hB1 : W.cell? ⟨B1, 0, none⟩ = some (.slice px n cx)) (hB2 : W.cell? ⟨B2, 0, none⟩ = some (.slice py m cy)) (hx : Row W px n xs) (hy : Row W py m ys)
    (hbx : ∀ p, px = some p → p.block < n₀) (hby : ∀ p, py = some p → p.block < n₀) (hn0 : n₀ ≤ W.heap.size) (hB2n : B2 < W.heap.size) (h0 : J [] W) :
    CallsIn Fence.wide g Try.prog 86 #[.func (.yield l) #[] #[], .pointer (some ⟨B1, 0, none⟩), .pointer (some ⟨B2, 0, none⟩)] W fun e W' => (∃ v, e = .returned v) ∧
      ((∃ zs, valp zs = allp m n ∧ J zs W') ∨ (∃ pre, True ∧ Jx pre W')) := by
  refine callsIn_of_wp Try.func86 rfl trivial ?_ rfl
  simp only [Try.ntmps86, List.size_toArray, List.length_cons, List.length_nil, Nat.reduceAdd, Nat.reduceSub, Array.replicate_succ, Array.replicate_zero, List.push_toArray, List.append_toArray, List.nil_append, List.cons_append]
  gi_wp2
  gi_loopw [10] (fun i wr => ∃ (t : Nat) (pre : List (Fin n × Fin m)), t ≤ n ∧ i = .int .i64 t ∧ Hid (valp pre = allp m t) ∧ Hid (J pre wr) ∧ Hid (KpB n₀ B2 W wr)) (fun i _ => n - (intOf i).toNat)
  case atStart =>
    exact ⟨0, [], Nat.zero_le _, rfl, Lib.hid rfl, Lib.hid h0, Lib.hid (kpB_refl _ _ _)⟩
  case round =>
    obtain ⟨t, pre, ht, rfl, HP, HJ, HK⟩ := hrel
    by_cases hlt : t < n
    · obtain ⟨b, off, rfl, _, hc0, x0, x1⟩ := hx.cell hlt
      have hb : b < n₀ := hbx _ rfl
      have hc : wr.cell? ⟨b, off + t, none⟩ = some (.int .u64 (xs.getD t 0)) := (HK.out.1.cell (p := ⟨b, off + t, none⟩) hb).trans hc0
      have hbox := HK.out.2 _ hB2
      obtain ⟨x, hxe⟩ : ∃ x, xs.getD t 0 = x := ⟨_, rfl⟩
      rw [hxe] at hc x0 x1
      have hd : decide ((t : Int) < (n : Int)) = true := decide_eq_true (by omega)
      gi_wp2
      gi_loopw [17] (fun j wr => ∃ (s : Nat) (pre : List (Fin n × Fin m)), s ≤ m ∧ j = .int .i64 s ∧ Hid (valp pre = allp m t ++ rowp t s) ∧ Hid (J pre wr) ∧ Hid (KpB n₀ B2 W wr)) (fun j _ => m - (intOf j).toNat)
      case atStart => exact ⟨0, pre, Nat.zero_le _, rfl, Lib.hid (by rw [HP.out]; simp [rowp]), HJ, HK⟩
      case round =>
        clear hc hbox
        obtain ⟨s, pre2, hs, rfl, HP2, HJ2, HK2⟩ := hrel
        by_cases hlt2 : s < m
        · obtain ⟨b', off', rfl, _, hd0, y0, y1⟩ := hy.cell hlt2
          have hb' : b' < n₀ := hby _ rfl
          have hc' : wr.cell? ⟨b', off' + s, none⟩ = some (.int .u64 (ys.getD s 0)) := (HK2.out.1.cell (p := ⟨b', off' + s, none⟩) hb').trans hd0
          have hd2 : decide ((s : Int) < (m : Int)) = true := decide_eq_true (by omega)
          have hlen : pre2.length < n * m := by
            rw [← valp_len, HP2.out, List.length_append, allp_len, rowp_len]
            have := Nat.mul_le_mul_right m (show t + 1 ≤ n from hlt)
            rw [Nat.succ_mul] at this
            omega
          have hw1 : IntKind.i64.wrap ((t : Int) + (s : Int)) = (t : Int) + (s : Int) := IntWalk.i64_in _ (by omega)
          have HE := Lib.hid (show encp xs ys ((⟨t, hlt⟩, ⟨s, hlt2⟩) : Fin n × Fin m) = #[.int .i64 ((t : Int) + (s : Int)), .int .u64 (fm (x * ys.getD s 0))] from (by rw [← hxe]; rfl))
          have HV := Lib.hid (fun pre => (show valp (pre ++ [((⟨t, hlt⟩, ⟨s, hlt2⟩) : Fin n × Fin m)]) = valp pre ++ [(t, s)] from valp_snoc (n := n) (m := m) pre (⟨t, hlt⟩, ⟨s, hlt2⟩)))
          have HYx := Lib.hid (fun W h => hY pre2 (⟨t, hlt⟩, ⟨s, hlt2⟩) W h hlen)
          rw [HE.out] at HYx
          generalize ((⟨t, hlt⟩, ⟨s, hlt2⟩) : Fin n × Fin m) = z at *
          generalize ys.getD s 0 = y at *
          gi_wp2
          refine ⟨trivial, (callsIn_wide.2 (gold_mul _ _ _ x0 x1 y0 y1)).mono ?_⟩
          rintro e w1 ⟨rfl, hb1⟩
          have HJ3 := Lib.hid (hJ pre2 wr w1 HJ2.out hb1)
          have HK3 := Lib.hid (kpB_t HK2.out ⟨hb1.mono (Nat.le_trans hn0 HK2.out.1.size), fun v hv => (hb1.cell (p := ⟨B2, 0, none⟩) (Nat.lt_of_lt_of_le hB2n HK2.out.1.size)).trans hv⟩)
          obtain ⟨fn, tmps, assign, body, hy1, hR⟩ := HYx w1 HJ3.out
          gi_wp2
          refine hR.mono ?_
          rintro e W3 (⟨rfl, hJ3, hk3⟩ | ⟨rfl, hJx3⟩)
          · have HJ4 := Lib.hid hJ3
            have HK4 := Lib.hid (kpB_t HK3.out hk3)
            have HV2 := Lib.hid (HV.out pre2)
            clear hJ3 hk3 HJ HK HJ2 HK2 HJ3 HK3 hR hY
            gi_wp2
            go_roundw
            case rel => exact ⟨s + 1, pre2 ++ [z], by omega, by go_num, Lib.hid (by rw [HV2.out, HP2.out, rowp, List.append_assoc]), HJ4, HK4⟩
            case measure => (first | (simp [intOf]; done) | (simp [intOf]; omega) | (simp only [intOf]; omega))
          · gi_wp2
            refine bodyPost_ret (results_none rfl _ _ _) rfl ?_
            exact ⟨⟨_, rfl⟩, .inr ⟨_, trivial, hJx3⟩⟩
        · obtain rfl : s = m := by omega
          have hd2 : decide ((s : Int) < (s : Int)) = false := decide_eq_false (by omega)
          gi_wp2
          go_roundw
          case rel => exact ⟨t + 1, pre2, by omega, by go_num, HP2, HJ2, HK2⟩
          case measure => (first | (simp [intOf]; done) | (simp [intOf]; omega) | (simp only [intOf]; omega))
    · obtain rfl : t = n := by omega
      have hd : decide ((t : Int) < (t : Int)) = false := decide_eq_false (by omega)
      gi_wp2
      go_end0
      exact ⟨⟨_, rfl⟩, .inl ⟨pre, HP.out, HJ.out⟩⟩
set_option maxRecDepth 100000 in
theorem conv_products (g : Nat) (px py : Option Addr) (n m cx cy : Nat) (w : World) :
    CallsIn Fence.wide g Try.prog 56 #[.slice px n cx, .slice py m cy] w fun e w' => e = .returned (.func (.func 86) #[] #[.pointer (some ⟨w.heap.size, 0, none⟩), .pointer (some ⟨w.heap.size + 1, 0, none⟩)]) ∧ w' = (w.alloc (.cells #[.slice px n cx] 22)).alloc (.cells #[.slice py m cy] 22) := by
  refine callsIn_of_wp Try.func56 rfl trivial ?_ rfl
  simp only [Try.ntmps56, List.size_toArray, List.length_cons, List.length_nil, Nat.reduceAdd, Nat.reduceSub, Array.replicate_succ, Array.replicate_zero, List.push_toArray, List.append_toArray, List.nil_append, List.cons_append]
  gi_wp2
  go_ret
  exact ⟨rfl, rfl⟩
/-- products hands back a value that goes through all pairs. -/
theorem conv_stops (g : Nat) (hg : 1 ≤ g) (B1 B2 n₀ n m cx cy : Nat) (px py : Option Addr) (xs ys : List Int) (hn : n ≤ 5000) (hm : m ≤ 5000) (w : World)
    (hB1 : w.cell? ⟨B1, 0, none⟩ = some (.slice px n cx)) (hB1n : B1 < w.heap.size) (hB2 : w.cell? ⟨B2, 0, none⟩ = some (.slice py m cy)) (hx : Row w px n xs) (hy : Row w py m ys)
    (hbx : ∀ p, px = some p → p.block < n₀) (hby : ∀ p, py = some p → p.block < n₀) (hn0 : n₀ ≤ w.heap.size) (hB2n : B2 < w.heap.size) :
    SeqStopsK Fence.wide g Try.prog 86 #[.pointer (some ⟨B1, 0, none⟩), .pointer (some ⟨B2, 0, none⟩)] (encp xs ys (n := n) (m := m)) (KpB n₀ B2) (fun zs => valp zs = allp m n) (fun _ => True) (n * m) w := fun l J Jx W hW hJ _ hY h0 =>
  conv_prod1 g hg l B1 B2 n₀ n m cx cy px py xs ys hn hm J Jx (fun pre A C h hb => hJ pre A C none h (below_grown0 hb) (fun r e => by cases e)) hY W ((hW.cell (p := ⟨B1, 0, none⟩) hB1n).trans hB1) ((hW.cell (p := ⟨B2, 0, none⟩) hB2n).trans hB2) (hx.below hW) (hy.below hW) hbx hby (Nat.le_trans hn0 hW.size) (Nat.lt_of_lt_of_le hB2n hW.size) h0
end Go.Proofs.Ytkijiljipacfjaa
