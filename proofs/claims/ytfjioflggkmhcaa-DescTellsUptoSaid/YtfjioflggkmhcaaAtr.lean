/- Reference 13's At, for every tree and path. -/
import Derived.Test.YtfjioflggkmhcaaClonel
import Derived.BigQuiet
import Derived.Deep.QuietTactic
import Derived.Deep.DeepCutAuto
namespace Go.Proofs.Ytfjioflggkmhcaa
open Go.ChangeShapes Go.WideShapes Go.ChangeAt Go.RowKit
set_option linter.unusedVariables false
/-- The node at a path. -/
def atN : Int → Int → Fo → List Int → Option (Int × Int × Fo)
  | k, n, ks, [] => some (k, n, ks)
  | _, _, ks, i :: r => if i < 0 ∨ (ks.len : Int) ≤ i then none else atN (ks.k i.toNat) (ks.n i.toNat) (ks.kids i.toNat) r
/-- What At hands back. -/
def AtG (lim : Nat) (o : Option (Int × Int × Fo)) (e : Ending) (w' : World) : Prop :=
  ∃ k n p m c ok ks, e = .returned (.tuple #[.agg #[.int .i64 k, .int .i64 n, .slice p m c], .bool ok]) ∧ Kids w' lim (.slice p m c) ks ∧ (ok = true → o = some (k, n, ks)) ∧ (ok = false → o = none ∧ k = 0 ∧ n = 0 ∧ ks = .nil)
theorem results_cell_tmp' {P : Program} {fn : Func} {p a : Tmp} {ty : TypeId} (h : fn.results = #[.cell p ty, .tmp a]) (tmps : Array Value) (w : World) (g : Nat) (t : TypeId) (cs : Array Value) (fr : Nat × Nat) (d : TypeDesc) (x : Value)
    (hp : tmps.getD p undef = .pointer (some ⟨g, 0, none⟩)) (ha : tmps.getD a undef = x) (hg : w.heap[g]? = some (.cells cs t fr))
    (hu : P.underlying ty = some d) (hd : (match d with | .struct _ | .array _ _ => true | _ => false) = true) (hi : (P.info? ty).map (·.size) = some cs.size) :
    (results fn tmps).run P w = .ok (.tuple #[.agg cs, x]) w := by
  have e : tmps[p]?.getD undef = .pointer (some ⟨g, 0, none⟩) := by simpa using hp
  have ea : tmps[a]?.getD undef = x := by simpa using ha
  simp [results, h, e, ea, asAddr, run_loadVar_row w g t ty cs fr d hg hu hd hi]
theorem row_put3 {w : World} {g : Nat} {x y z a b c : Value} {T : TypeId} (h : w.heap[g]? = some (.cells #[x, y, z] T (0, 0))) : (((w.setCell ⟨g, 0, none⟩ a).setCell ⟨g, 1, none⟩ b).setCell ⟨g, 2, none⟩ c).heap[g]? = some (.cells #[a, b, c] T (0, 0)) := by
  rw [row_setCell3 (row_setCell3 (row_setCell3 h _) _) _]; rfl
theorem below_put3 {B g : Nat} {W w : World} (h : Below B W w) (hg : B ≤ g) (a b c : Value) : Below B W (((w.setCell ⟨g, 0, none⟩ a).setCell ⟨g, 1, none⟩ b).setCell ⟨g, 2, none⟩ c) :=
  ((h.setCell (p := ⟨g, 0, none⟩) hg _).setCell (p := ⟨g, 1, none⟩) hg _).setCell (p := ⟨g, 2, none⟩) hg _
set_option maxRecDepth 100000 in
set_option maxHeartbeats 2000000 in
theorem r13_at0 (k n : Int) (ks : Fo) (p : Option Addr) (m c lim : Nat) (a : Option Addr) (d : Nat) (W : World) (hK : Kids W lim (.slice p m c) ks) (hl : lim ≤ W.heap.size) :
    Calls Try.prog 27 #[.agg #[.int .i64 k, .int .i64 n, .slice p m c], .slice a 0 d] W fun e w' => AtG lim (atN k n ks []) e w' ∧ Below W.heap.size W w' := by
  obtain ⟨w0, hw0, r0, r1, hB, hs⟩ := clone_start W (.int .i64 k) (.int .i64 n) (.slice p m c) (.int .i64 k) (.int .i64 n) (.slice p m c) 24
  have HR := Lib.hid r1
  have HK := Lib.hid hK
  clear r0 r1 hK
  go_enter Try.func27, Try.ntmps27
  go_wp2_with fail
  rw [← hw0]
  clear hw0
  refine bodyPost_ret (results_cell_tmp' (p := 4) (a := 5) (ty := 24) rfl _ _ _ 24 #[.int .i64 k, .int .i64 n, .slice p m c] (0, 0) _ (.bool true) rfl rfl HR.out Try.underlying24 rfl (by kernel_rfl)) rfl ?_
  exact ⟨⟨k, n, p, m, c, true, ks, rfl, HK.out.below hl hB, fun _ => rfl, fun h => by cases h⟩, hB⟩
set_option maxRecDepth 100000 in
set_option maxHeartbeats 2000000 in
theorem r13_atno (k n i : Int) (r : List Int) (ks : Fo) (p : Option Addr) (m c lim : Nat) (b o t d : Nat) (W : World) (hm : m = ks.len) (hc : m ≤ 9223372036854775807) (hi : i < 0 ∨ (m : Int) ≤ i) (hP : W.cell? ⟨b, o, none⟩ = some (.int .i64 i)) (ht : t ≤ 17592186044415) :
    Calls Try.prog 27 #[.agg #[.int .i64 k, .int .i64 n, .slice p m c], .slice (some ⟨b, o, none⟩) (t + 1) d] W fun e w' => AtG lim (atN k n ks (i :: r)) e w' ∧ Below W.heap.size W w' := by
  obtain ⟨w0, hw0, r0, r1, hB, hs⟩ := clone_start W (.int .i64 k) (.int .i64 n) (.slice p m c) (.int .i64 0) (.int .i64 0) (.slice none 0 0) 24
  obtain ⟨x0, x1, x2, f0, f1, f2⟩ := row_cells3 r0
  obtain ⟨y0, y1, y2, g0, g1, g2⟩ := row_cells3 r1
  have lP := block_lt_of_cell hP
  have p0 := (hB.cell (p := ⟨b, o, none⟩) lP).trans hP
  have HR := Lib.hid (fun (w : World) (h : w.heap = w0.heap) => (row_put3 (w := w) (a := .int .i64 0) (b := .int .i64 0) (c := .slice none 0 0) (by rw [h]; exact r1)))
  have hBd := hB.drew
  have E := Lib.hid (show atN k n ks (i :: r) = none by rw [atN, if_pos (by rw [← hm]; exact hi)])
  have d1 : (((t + 1 : Nat) : Int) == 0) = false := by simp; omega
  clear r0 hm
  by_cases h0 : i < 0
  · have c1 : decide (i < 0) = true := decide_eq_true h0
    go_enter Try.func27, Try.ntmps27
    go_wp2_with fail
    rw [← hw0]
    clear hw0
    go_wp2_with fail
    go_quiet (fail)
    go_wp2_with fail
    refine bodyPost_ret (results_cell_tmp' (p := 4) (a := 5) (ty := 24) rfl _ _ _ 24 #[.int .i64 0, .int .i64 0, .slice none 0 0] (0, 0) _ (.bool false) rfl rfl (HR.out _ rfl) Try.underlying24 rfl (by kernel_rfl)) rfl ?_
    exact ⟨⟨0, 0, none, 0, 0, false, .nil, rfl, Kids.nought _ _, (fun h => by cases h), fun _ => ⟨E.out, rfl, rfl, rfl⟩⟩, below_put3 (below_drewN hB _) (by omega) _ _ _⟩
  · have c1 : decide (i < 0) = false := decide_eq_false h0
    have c2 : decide ((m : Int) ≤ i) = true := decide_eq_true (by omega)
    go_enter Try.func27, Try.ntmps27
    go_wp2_with fail
    rw [← hw0]
    clear hw0
    go_wp2_with fail
    go_quiet (fail)
    go_wp2_with fail
    refine bodyPost_ret (results_cell_tmp' (p := 4) (a := 5) (ty := 24) rfl _ _ _ 24 #[.int .i64 0, .int .i64 0, .slice none 0 0] (0, 0) _ (.bool false) rfl rfl (HR.out _ rfl) Try.underlying24 rfl (by kernel_rfl)) rfl ?_
    exact ⟨⟨0, 0, none, 0, 0, false, .nil, rfl, Kids.nought _ _, (fun h => by cases h), fun _ => ⟨E.out, rfl, rfl, rfl⟩⟩, below_put3 (below_drewN hB _) (by omega) _ _ _⟩
end Go.Proofs.Ytfjioflggkmhcaa
