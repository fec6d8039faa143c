/- package desc's All, for every tree: what it hands back. -/
import Derived.Test.YtfjioflggkmhcaaAllg
namespace Go.Proofs.Ytfjioflggkmhcaa
open Go.ChangeShapes Go.WideShapes Go.ChangeAt Go.RowKit
set_option linter.unusedVariables false
open Go.Shelf
set_option linter.unusedSimpArgs false
set_option maxRecDepth 100000 in
set_option maxHeartbeats 4000000 in
theorem desc_all (k n : Int) (v : Value) (f : Fo) (lim : Nat) (W : World) (hK : Kids W lim v f) (hl : lim ≤ W.heap.size) (hC : f.cnt ≤ 1048576) :
    Calls Try.prog 16 #[.agg #[.int .i64 k, .int .i64 n, v]] W fun e w' => ∃ bo a c, e = .returned (.func (.func 47) #[] #[.pointer (some ⟨bo, 0, none⟩)]) ∧ w'.heap[bo]? = some (.cells #[.int .i64 k, .int .i64 n, .slice a f.len c] 24 (0, 0)) ∧ Kids w' w'.heap.size (.slice a f.len c) f ∧ Below W.heap.size W w' := by
  obtain ⟨w0, hw0, c0, c1, c2, hB, hsz⟩ := box3 W k n v 24
  obtain ⟨p, m, c, rfl, _, _, HM⟩ := hK.shape
  have CL := Lib.hid (desc_clone k n (.slice p m c) f W.heap.size w0 ((hK.mono hl).below (Nat.le_refl _) hB) hB.size hC)
  clear hK HM
  go_enter Try.func16, Try.ntmps16
  go_wp2_with fail
  rw [← hw0]
  clear hw0
  refine (CL.out).mono ?_
  rintro e w1 ⟨F, q, rfl, hq, hF, b1⟩
  obtain ⟨ka, kc, hkv⟩ := kidv_form F 0 f.len
  rw [hkv]
  have hG := Lib.hid (show (w1.alloc (.cells #[.int .i64 k, .int .i64 n, .slice ka f.len kc] 24)).heap[w1.heap.size]? = some (.cells #[.int .i64 k, .int .i64 n, .slice ka f.len kc] 24 (0, 0)) ∧ Kids (w1.alloc (.cells #[.int .i64 k, .int .i64 n, .slice ka f.len kc] 24)) (w1.alloc (.cells #[.int .i64 k, .int .i64 n, .slice ka f.len kc] 24)).heap.size (.slice ka f.len kc) f ∧ Below W.heap.size W (w1.alloc (.cells #[.int .i64 k, .int .i64 n, .slice ka f.len kc] 24)) from
    ⟨heap_alloc_new w1 _, by rw [← hkv]; exact Cloned.kids (q := q) (hq.below (Below.heap_alloc _ _ _ hq.blk) (by simp)) (by have := hq.blk; simp; omega) hC, (hB.trans (b1.mono hB.size)).alloc (by have := hB.size; have := b1.size; omega) _⟩)
  clear hq
  go_wp2_with fail
  go_ret
  exact ⟨w1.heap.size, ka, kc, rfl, hG.out.1, hG.out.2.1, hG.out.2.2⟩
theorem all_rel (g : Nat) (hg : 8 ≤ g) (B1 n₀ m c : Nat) (k n : Int) (p : Option Addr) (f : Fo) (w : World) (hb0 : w.cell? ⟨B1, 0, none⟩ = some (.int .i64 k)) (hb1 : w.cell? ⟨B1, 1, none⟩ = some (.int .i64 n)) (hb2 : w.cell? ⟨B1, 2, none⟩ = some (.slice p m c)) (hK : Kids w n₀ (.slice p m c) f) (hn0 : n₀ ≤ w.heap.size) (hC : f.cnt ≤ 1048576) :
    SeqRel Fence.wide g Try.prog 47 #[.pointer (some ⟨B1, 0, none⟩)] encN n₀ (fun xs => xs.map NodV.nd = ⟨k, n, f⟩ :: f.pre) (fun pre => ∃ r, pre.map NodV.nd ++ r = ⟨k, n, f⟩ :: f.pre) (RelA (⟨k, n, f⟩ :: f.pre)) w := fun l J Jx W hW hJ hJx hY h0 => by
  have lB := block_lt_of_cell hb0
  exact all_g g hg B1 n₀ l m c k n p f W ((hW.cell (p := ⟨B1, 0, none⟩) lB).trans hb0) ((hW.cell (p := ⟨B1, 1, none⟩) lB).trans hb1) ((hW.cell (p := ⟨B1, 2, none⟩) lB).trans hb2) (hK.carry (hW.mono hn0)) (Nat.le_trans hn0 hW.size) hC J Jx hJ hJx hY h0
theorem results_cell1 {fn : Func} {p : Tmp} (h : fn.results = #[.cell p 4]) (tmps : Array Value) (w : World) (g : Nat) (v : Value) (hp : tmps.getD p undef = .pointer (some ⟨g, 0, none⟩)) (hc : w.cell? ⟨g, 0, none⟩ = some v) : (results fn tmps).run Try.prog w = .ok v w := by
  have hp' : tmps[p]?.getD undef = .pointer (some ⟨g, 0, none⟩) := by simpa using hp
  have hu := Try.underlying4
  simp [results, h, hp', asAddr, go_sem, hc, hu]
end Go.Proofs.Ytfjioflggkmhcaa
