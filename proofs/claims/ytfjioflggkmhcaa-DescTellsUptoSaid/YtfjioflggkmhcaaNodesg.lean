/- package desc's Nodes, for every tree. -/
import Derived.Test.YtfjioflggkmhcaaRowsg
import Derived.Test.YtfjioflggkmhcaaNodesl
namespace Go.Proofs.Ytfjioflggkmhcaa
open Go.ChangeShapes Go.WideShapes Go.ChangeAt Go.RowKit
set_option linter.unusedVariables false
open Go.Shelf
set_option linter.unusedSimpArgs false
attribute [local go_sem] Oper.semAt_some
theorem rows_low (g : Nat) (hg : 1 ≤ g) (B1 n₀ m c : Nat) (p : Option Addr) (f : Fo) (w : World) (hB1 : w.cell? ⟨B1, 2, none⟩ = some (.slice p m c)) (hK : Kids w n₀ (.slice p m c) f) (hn0 : n₀ ≤ w.heap.size) (hC : f.cnt ≤ 1048576) :
    SeqLow Fence.wide g Try.prog 83 #[.pointer (some ⟨B1, 0, none⟩)] encR (Kpr n₀ w.heap.size) (fun xs => zsum xs = f.cnt) (fun _ => True) (f.cnt + 2) w := fun l J Jx W hW hJ _ hY h0 =>
  rows_g g hg B1 n₀ w.heap.size l m c p f W ((hW.cell (p := ⟨B1, 2, none⟩) (block_lt_of_cell hB1)).trans hB1) (hK.carry (hW.mono hn0)) hn0 hW.size hC J Jx hJ hY h0
set_option maxRecDepth 100000 in
set_option maxHeartbeats 2000000 in
theorem desc_nodes (k n : Int) (v : Value) (lim : Nat) (f : Fo) (W : World) (hK : Kids W lim v f) (hl : lim ≤ W.heap.size) (hC : f.cnt ≤ 1048576) :
    Calls Try.prog 17 #[.agg #[.int .i64 k, .int .i64 n, v]] W fun e w' => e = .returned (.int .i64 ((f.cnt : Int) + 1)) ∧ Below W.heap.size W w' := by
  obtain ⟨p, m, c, rfl, hc1, hc2, HM⟩ := hK.shape
  clear HM
  refine (callsIn_wide (n := 6)).1 ?_
  refine callsIn_of_wp_marks Try.func17 rfl trivial ?_ rfl
  simp only [Try.ntmps17, List.size_toArray, List.length_cons, List.length_nil, Nat.reduceAdd, Nat.reduceSub, Array.replicate_succ, Array.replicate_zero, List.push_toArray, List.append_toArray, List.nil_append, List.cons_append]
  gi_wp2
  refine ⟨trivial, (desc_rows _ k n (.slice p m c) _).mono ?_⟩
  rintro e w1 ⟨rfl, rfl⟩
  gi_wp2
  have hB0 : Below W.heap.size W (((W.alloc (.cells #[.int .i64 k, .int .i64 n, .slice p m c] 24)).alloc (.cells #[.int .i64 1] 3)).alloc (.cells #[.int .i64 k, .int .i64 n, .slice p m c] 24)) := (((Below.refl _ W).alloc (Nat.le_refl _) _).alloc (by simp) _).alloc (by simp; omega) _
  have hsz : (((W.alloc (.cells #[.int .i64 k, .int .i64 n, .slice p m c] 24)).alloc (.cells #[.int .i64 1] 3)).alloc (.cells #[.int .i64 k, .int .i64 n, .slice p m c] 24)).heap.size = W.heap.size + 3 := by simp
  have bN := (Bx.new (W.alloc (.cells #[.int .i64 k, .int .i64 n, .slice p m c] 24)) 3 (.int .i64 1) _ rfl).alloc (.cells #[.int .i64 k, .int .i64 n, .slice p m c] 24)
  have c2 : (((W.alloc (.cells #[.int .i64 k, .int .i64 n, .slice p m c] 24)).alloc (.cells #[.int .i64 1] 3)).alloc (.cells #[.int .i64 k, .int .i64 n, .slice p m c] 24)).cell? ⟨W.heap.size + 1 + 1, 2, none⟩ = some (.slice p m c) := by
    have hn := heap_alloc_new ((W.alloc (.cells #[.int .i64 k, .int .i64 n, .slice p m c] 24)).alloc (.cells #[.int .i64 1] 3)) (.cells #[.int .i64 k, .int .i64 n, .slice p m c] 24)
    simp only [World.size_alloc] at hn
    rw [cell_of_row _ _ _ _ _ _ hn]; rfl
  simp only [World.size_alloc] at bN
  obtain ⟨W0, hW0⟩ : ∃ W0, (((W.alloc (.cells #[.int .i64 k, .int .i64 n, .slice p m c] 24)).alloc (.cells #[.int .i64 1] 3)).alloc (.cells #[.int .i64 k, .int .i64 n, .slice p m c] 24)) = W0 := ⟨_, rfl⟩
  rw [hW0] at hB0 hsz bN c2 ⊢
  clear hW0
  refine wp_range_low rfl (by omega) (gf := 83) (lb := #[.pointer (some ⟨W.heap.size + 1 + 1, 0, none⟩)]) rfl trivial (enters_of Try.func83 (by kernel_rfl) rfl)
    (rows_low _ (by omega) (W.heap.size + 1 + 1) W.heap.size m c p f W0 c2 ((hK.mono hl).below (Nat.le_refl _) hB0) (by omega) hC)
    (fun A B C => Kpr.trans A B C) (kpr_put (w := W0) (by omega)) (Below.refl _ _) (fun _ => rfl)
    (fun pre W' => Bx W' (W.heap.size + 1) 3 (.int .i64 ((1 + zsum pre : Nat) : Int)) ∧ Below W.heap.size W W')
    (fun _ _ _ => False)
    (fun pre A C h hb => ⟨(hb.block (W.heap.size + 1) (by omega)).trans h.1, h.2.trans (hb.mono (by omega))⟩)
    (fun _ _ _ _ h _ => h)
    ⟨by simpa [zsum] using bN, hB0⟩
    (fun x => { tmps := #[.agg #[.int .i64 k, .int .i64 n, .slice p m c], .pointer (some ⟨W.heap.size, 0, none⟩), .int .i64 0, .pointer (some ⟨W.heap.size + 1, 0, none⟩), .slice x.1.1 x.1.2.1 x.1.2.2, .agg #[.int .i64 k, .int .i64 n, .slice p m c], .func (.func 83) #[] #[.pointer (some ⟨W.heap.size + 1 + 1, 0, none⟩)], .slice x.1.1 x.1.2.1 x.1.2.2, undef, undef, undef, undef, undef], defers := [] })
    ?assign ?body ?done ?stop
  case assign =>
    rintro l ⟨⟨xa, xm, xc⟩, hx⟩ W' K hK
    dsimp only [encR] at hK ⊢
    gi_wp2
    exact hK
  case body =>
    rintro l pre ⟨⟨xa, xm, xc⟩, hx⟩ W' ⟨hN, hB⟩ hlen
    dsimp only at hx ⊢
    have cN := hN.cell
    have fN : W'.frozen? ⟨W.heap.size + 1, 0, none⟩ = false := frozen_of_row _ _ _ _ _ hN
    have hz := zsum_le pre
    have ez : zsum (pre ++ [⟨(xa, xm, xc), hx⟩]) = zsum pre + xm := by rw [zsum_app]; rfl
    have w1 : IntKind.i64.wrap (((1 + zsum pre : Nat) : Int) + (xm : Int)) = ((1 + zsum (pre ++ [⟨(xa, xm, xc), hx⟩]) : Nat) : Int) := by
      rw [ez, IntWalk.i64_in _ (by omega)]; omega
    have hN2 := hN.set (.int .i64 ((1 + zsum (pre ++ [⟨(xa, xm, xc), hx⟩]) : Nat) : Int))
    obtain ⟨y, hy⟩ : ∃ y : Int, ((1 + zsum pre : Nat) : Int) = y := ⟨_, rfl⟩
    obtain ⟨z, hz⟩ : ∃ z : Int, ((1 + zsum (pre ++ [⟨(xa, xm, xc), hx⟩]) : Nat) : Int) = z := ⟨_, rfl⟩
    rw [hy] at cN w1
    rw [hz] at w1 hN2
    have HN3 := Lib.hid (show Bx (W'.setCell ⟨W.heap.size + 1, 0, none⟩ (.int .i64 z)) (W.heap.size + 1) 3 (.int .i64 ((1 + zsum (pre ++ [⟨(xa, xm, xc), hx⟩]) : Nat) : Int)) by rw [hz]; exact hN2)
    clear hy hz hN hN2 ez
    gi_wp2
    exact ⟨KeepsOthers.setCell _ _ _, ⟨(Below.refl _ _).setCell (by show W.heap.size ≤ W.heap.size + 1; omega) _, fun q o hq ho _ => (heap_setCell_other W' ⟨W.heap.size + 1, 0, none⟩ q _ (by show q ≠ W.heap.size + 1; omega)).trans ho⟩, HN3.out, hB.setCell (by show W.heap.size ≤ W.heap.size + 1; omega) _⟩
  case done =>
    rintro D zs W' hD hzs ⟨hN, hB⟩ hK
    have cN := hN.cell
    rw [hzs] at cN
    gi_wp2
    refine ⟨by simp, .inl ⟨_, _, rfl, run_takeDeferred hK, ?_⟩⟩
    exact ⟨_, results_tmp rfl _ _ _, by show Ending.returned (.int .i64 (1 + (f.cnt : Int))) = _; rw [Int.add_comm], hB.trans (belowK_b (w := W) (Nat.le_refl _) W' D _ _ (by omega) hK rfl rfl)⟩
  case stop =>
    rintro D c pre W' _ _ h _
    exact h.elim
end Go.Proofs.Ytfjioflggkmhcaa
