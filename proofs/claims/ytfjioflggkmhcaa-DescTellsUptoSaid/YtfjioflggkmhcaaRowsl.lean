/- package desc's rows and Nodes, where no kid has kids. -/
import Derived.RangeFuncNested
import Derived.RangeFuncBound
import Derived.RangeFuncCalls
import Derived.RangeFuncLeaves
import Derived.Shelf.Abstract
import Derived.Shelf.RegionOpen
import Derived.WalkKit
import Derived.OwnWalkIn
import Derived.TacticsInMore
import Derived.LoopNIn
import Derived.LoopIn
import Derived.Test.YtfjioflggkmhcaaD11
namespace Go.Proofs.Ytfjioflggkmhcaa
open Go.ChangeShapes Go.WideShapes Go.ChangeAt Go.RowKit
set_option linter.unusedVariables false
open Go.Shelf
attribute [local go_sem] Oper.semAt_some
theorem below_grown00 {w w' : World} (h : Below w.heap.size w w') : w.grownBy w' none := ⟨h.os, h.tape, h.output, h.size, fun k hk _ => h.block k hk⟩
theorem kpl_b {n₀ : Nat} {w : World} (hn : n₀ ≤ w.heap.size) (W : World) (l : Nat) (o o' : Obj) (hl : w.heap.size ≤ l) (h : W.heap[l]? = some o) (h1 : o.isCells = false) (h2 : o.isWalk = false) : Below n₀ W (W.putObj l o') := belowK_b (w := w) hn W l o o' hl h h1 h2
def encr (v : Value) (_ : Unit) : Array Value := #[v]
def lenv : Value → Nat
  | .slice _ n _ => n
  | _ => 0
set_option maxRecDepth 100000 in
set_option maxHeartbeats 2000000 in
theorem desc_rows1 (g : Nat) (hg : 1 ≤ g) (l B1 n₀ m c : Nat) (p : Option Addr) (f : Fo) (hL : ∀ i, i < m → (f.kids i).len = 0) (hc : m ≤ c) (hc2 : c ≤ 9223372036854775807) (J Jx : List Unit → World → Prop)
    (hJ : ∀ pre A C, J pre A → Below A.heap.size A C → J pre C)
    (hY : ∀ pre x W, J pre W → pre.length < 1 → YieldAt Fence.wide (g - 1) Try.prog l (encr (.slice p m c) x) W fun e W' =>
      (e = .returned (.bool true) ∧ J (pre ++ [x]) W' ∧ Below n₀ W W') ∨ (e = .returned (.bool false) ∧ Jx (pre ++ [x]) W'))
    (W : World) (hB1 : W.cell? ⟨B1, 2, none⟩ = some (.slice p m c)) (hK : Kids W n₀ (.slice p m c) f) (hn0 : n₀ ≤ W.heap.size) (h0 : J [] W) :
    CallsIn Fence.wide g Try.prog 83 #[.func (.yield l) #[] #[], .pointer (some ⟨B1, 0, none⟩)] W fun e W' => (∃ v, e = .returned v) ∧
      ((∃ zs, zs.length = 1 ∧ J zs W') ∨ (∃ pre, True ∧ Jx pre W')) := by
  have lB := block_lt_of_cell hB1
  obtain ⟨W2, hW2⟩ : ∃ W2, W.alloc (.cells #[.slice p m c] 22) = W2 := ⟨_, rfl⟩
  have HJ := Lib.hid (show J [] W2 from hJ [] W W2 h0 (by rw [← hW2]; exact (Below.refl _ _).alloc (Nat.le_refl _) _))
  have hb2 : Below n₀ W W2 := by rw [← hW2]; exact (Below.refl _ _).alloc hn0 _
  have cX : W2.cell? ⟨W.heap.size, 0, none⟩ = some (.slice p m c) := by
    rw [← hW2]
    have hn := heap_alloc_new W (.cells #[.slice p m c] 22)
    rw [cell_of_row _ _ _ _ _ _ hn]; rfl
  have HK := Lib.hid (hK.carry hb2)
  refine callsIn_of_wp Try.func83 rfl trivial ?_ rfl
  simp only [Try.ntmps83, List.size_toArray, List.length_cons, List.length_nil, Nat.reduceAdd, Nat.reduceSub, Array.replicate_succ, Array.replicate_zero, List.push_toArray, List.append_toArray, List.nil_append, List.cons_append]
  gi_wp2
  clear hW2
  have lX : W.heap.size < W2.heap.size := block_lt_of_cell cX
  gi_loopw [3] (fun s wr => Hid (Below n₀ W2 wr) ∧ ((s = .slice (some ⟨W.heap.size, 0, none⟩) 1 1 ∧ wr.cell? ⟨W.heap.size, 0, none⟩ = some (.slice p m c) ∧ Hid (J [] wr)) ∨ (s = .slice (some ⟨W.heap.size, 0, none⟩) 0 1 ∧ Hid (J [()] wr)))) (fun s _ => lenv s)
  case atStart => exact ⟨Lib.hid (Below.refl _ _), .inl ⟨rfl, cX, HJ⟩⟩
  case round =>
    clear cX HJ
    obtain ⟨HB, ⟨rfl, cX, HJ⟩ | ⟨rfl, HJ⟩⟩ := hrel
    · obtain ⟨fn, tmps, assign, body, hy1, hR⟩ := hY [] () wr HJ.out (by simp)
      dsimp only [encr] at hy1 hR
      gi_wp2
      refine hR.mono ?_
      rintro e W3 (⟨rfl, hJ3, hk3⟩ | ⟨rfl, hJx3⟩)
      · have HB3 := Lib.hid (HB.out.trans hk3)
        have HK3 := Lib.hid (HK.out.carry HB3.out)
        have HJ3 := Lib.hid hJ3
        clear hJ3 hk3 hR HJ HB cX HK h0 hY
        gi_wp2
        gi_loopw [3, 29] (fun t j wr => ∃ s : Nat, s ≤ m ∧ t = .slice (some ⟨W.heap.size, 0, none⟩) 0 1 ∧ j = .int .i64 s ∧ W3 = wr) (fun _ j _ => m - (intOf j).toNat)
        case atStart => exact ⟨0, Nat.zero_le _, rfl, rfl, rfl⟩
        case round =>
          obtain ⟨s, hs, rfl, rfl, rfl⟩ := hrel
          by_cases hlt : s < m
          · obtain ⟨b, o, v, rfl, hb, g0, g1, g2, hKi⟩ := HK3.out.get hlt
            obtain ⟨a', c', rfl, _, _⟩ := hKi.form
            rw [hL s hlt] at g2
            have dd : decide ((s : Int) < (m : Int)) = true := decide_eq_true (by omega)
            clear hKi
            gi_wp2
            go_roundw
            case rel => exact ⟨s + 1, by omega, rfl, by go_num, trivial⟩
            case measure => (first | (simp [intOf]; done) | (simp [intOf]; omega) | (simp only [intOf]; omega))
          · obtain rfl : s = m := by omega
            have dd : decide ((s : Int) < (s : Int)) = false := decide_eq_false (by omega)
            gi_wp2
            go_roundw
            case rel => exact ⟨HB3, .inr ⟨rfl, HJ3⟩⟩
            case measure => exact Nat.zero_lt_one
      · gi_wp2
        refine bodyPost_ret (results_none rfl _ _ _) rfl ?_
        exact ⟨⟨_, rfl⟩, .inr ⟨_, trivial, hJx3⟩⟩
    · gi_wp2
      go_end0
      exact ⟨⟨_, rfl⟩, .inl ⟨[()], rfl, HJ.out⟩⟩
theorem desc_rows (g : Nat) (k n : Int) (v : Value) (w : World) :
    CallsIn Fence.wide g Try.prog 49 #[.agg #[.int .i64 k, .int .i64 n, v]] w fun e w' => e = .returned (.func (.func 83) #[] #[.pointer (some ⟨w.heap.size, 0, none⟩)]) ∧ w' = w.alloc (.cells #[.int .i64 k, .int .i64 n, v] 24) := by
  refine callsIn_of_wp Try.func49 rfl trivial ?_ rfl
  simp only [Try.ntmps49, List.size_toArray, List.length_cons, List.length_nil, Nat.reduceAdd, Nat.reduceSub, Array.replicate_succ, Array.replicate_zero, List.push_toArray, List.append_toArray, List.nil_append, List.cons_append]
  gi_wp2
  go_ret
  exact ⟨rfl, rfl⟩
theorem desc_stops (g : Nat) (hg : 1 ≤ g) (B1 n₀ m c : Nat) (p : Option Addr) (f : Fo) (hL : ∀ i, i < m → (f.kids i).len = 0) (hc : m ≤ c) (hc2 : c ≤ 9223372036854775807) (w : World)
    (hB1 : w.cell? ⟨B1, 2, none⟩ = some (.slice p m c)) (hK : Kids w n₀ (.slice p m c) f) (hn0 : n₀ ≤ w.heap.size) :
    SeqStopsK Fence.wide g Try.prog 83 #[.pointer (some ⟨B1, 0, none⟩)] (encr (.slice p m c)) (Below n₀) (fun zs => zs.length = 1) (fun _ => True) 1 w := fun l J Jx W hW hJ _ hY h0 =>
  desc_rows1 g hg l B1 n₀ m c p f hL hc hc2 J Jx (fun pre A C h hb => hJ pre A C none h (below_grown00 hb) (fun r e => by cases e)) hY W ((hW.cell (p := ⟨B1, 2, none⟩) (block_lt_of_cell hB1)).trans hB1) (hK.carry (hW.mono hn0)) (Nat.le_trans hn0 hW.size) h0
end Go.Proofs.Ytfjioflggkmhcaa
