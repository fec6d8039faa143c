/- dulcimerref01: Sub. -/
import Derived.Test.YtlmaacbjbmhogaaWide1
namespace Go.Proofs.Ytlmaacbjbmhogaa
open Go.ChangeShapes Go.WideShapes Go.ChangeAt Go.RowKit
set_option linter.unusedVariables false

/-- The four blocks that a call with two numbers lays: both arguments, the answer, a row of noughts. -/
theorem four_blocks (w : World) (a b : Nat) (T : TypeId) : ∃ W0 : World, W0 = ((((w.alloc (.cells (D a) T)).alloc (.cells (D b) T)).alloc (.cells zeros8 T)).alloc (.cells zeros8 T)) ∧
    W0.heap[w.heap.size]? = some (.cells (D a) T (0, 0)) ∧ W0.heap[w.heap.size + 1]? = some (.cells (D b) T (0, 0)) ∧ W0.heap[w.heap.size + 1 + 1]? = some (.cells zeros8 T (0, 0)) ∧ W0.heap[w.heap.size + 1 + 1 + 1]? = some (.cells zeros8 T (0, 0)) ∧
    Below w.heap.size w W0 ∧ W0.heap.size = w.heap.size + 1 + 1 + 1 + 1 :=
  ⟨_, rfl, heap_alloc_older _ _ _ _ (heap_alloc_older _ _ _ _ (heap_alloc2_old _ _ _) (by simp; omega)) (by simp; omega),
    heap_alloc_older _ _ _ _ (heap_alloc_older _ _ _ _ (heap_alloc2_new _ _ _) (by simp)) (by simp),
    heap_alloc_older _ _ _ _ (heap_alloc_newest _ _ _ (by simp)) (by simp), heap_alloc_newest _ _ _ (by simp), by go_grown, by simp⟩

theorem sub_step {a b c j : Nat} (h : c + b = a + 65536 ^ 8) (hj : j < 8) : dg a j + 65536 * cyI c b (j + 1) = dg c j + dg b j + cyI c b j := by
  have e1 := dg_add c b j
  have e2 := cy_step c b j
  have e3 : (a + 65536 ^ 8) / 65536 ^ j % 65536 = a / 65536 ^ j % 65536 := by
    have e : 65536 ^ 8 = 65536 ^ j * (65536 ^ (7 - j) * 65536) := by
      rw [← Nat.pow_succ, ← Nat.pow_add]; congr 1; omega
    rw [e, Nat.add_mul_div_left _ _ (Nat.pow_pos (by omega)), Nat.add_mul_mod_self_right]
  rw [h, e3] at e1
  unfold dg cyI
  rw [e2]
  omega

set_option maxRecDepth 100000 in
theorem r1_sub (a b c : Nat) (w : World) (hc : c + b = a + 65536 ^ 8) :
    Calls Try.prog 10 #[.agg (D a), .agg (D b)] w fun e w' => e = .returned (.agg (D c)) ∧ Below w.heap.size w w' := by
  have HC := Lib.hid (show cyI c b 0 = 0 by unfold cyI; rw [cy_zero]; rfl)
  have HST := Lib.hid (fun j => sub_step (j := j) hc)
  obtain ⟨W0, hW0, hA, hB, hC, hD0, hW, hsz⟩ := four_blocks w a b 27
  have hD : FillingI W0 (w.heap.size + 1 + 1 + 1) 27 (dl c) 0 8 := by
    unfold FillingI; rw [zeros8_fill]; exact hD0
  have HA := Lib.hid hA
  have HB := Lib.hid hB
  have HC2 := Lib.hid hC
  have HD := Lib.hid hD
  have HSZ := Lib.hid hsz
  have HW0 := Lib.hid hW0
  clear hA hB hC hD hsz hD0 hW0 hc
  go_enter Try.func10, Try.ntmps10
  go_wp2_with fail
  have hw0 := HW0.out
  unfold zeros8 at hw0
  rw [← hw0]
  clear hw0
  go_loopw [6, 7, 8] (fun c' i n' wr => ∃ k : Nat, k ≤ 8 ∧ i = .int .i64 k ∧ c' = .int .i64 (cyI c b k) ∧ Hid (FillingI wr (w.heap.size + 1 + 1 + 1) 27 (dl c) k 8) ∧ Below (w.heap.size + 1 + 1 + 1) W0 wr) (fun _ i _ _ => 8 - (intOf i).toNat)
  case atStart => exact ⟨0, by omega, rfl, by rw [HC.out], HD, Below.refl _ _⟩
  case round =>
    obtain ⟨k, hk, rfl, rfl, HFL, hB0⟩ := hrel
    by_cases hlt : k < 8
    · have hk0 : (0 : Int) ≤ (k : Int) := by omega
      have hk8 : (k : Int) < 8 := by omega
      have hca : wr.cell? ⟨w.heap.size, k, none⟩ = some (.int .i64 (dg a k)) := (hB0.cell (p := ⟨w.heap.size, k, none⟩) (by show w.heap.size < _; omega)).trans (dcell HA.out k hlt)
      have hcb : wr.cell? ⟨w.heap.size + 1, k, none⟩ = some (.int .i64 (dg b k)) := (hB0.cell (p := ⟨w.heap.size + 1, k, none⟩) (by show w.heap.size + 1 < _; omega)).trans (dcell HB.out k hlt)
      obtain ⟨u, hu⟩ := HFL.out.cell hlt (dl_len _)
      have hfr := HFL.out.free k
      have a0 := dg_lo a k
      have a1 := dg_hi a k
      have b0 := dg_lo b k
      have b1 := dg_hi b k
      have d0 := dg_lo c k
      have d1 := dg_hi c k
      obtain ⟨c0, c1⟩ := cyI_bd c b k
      obtain ⟨e0, e1⟩ := cyI_bd c b (k + 1)
      have hst := HST.out k hlt
      have HX := Lib.hid (dl_at c k hlt)
      have w1 : IntKind.i64.wrap (dg a k - dg b k) = dg a k - dg b k := IntWalk.i64_in _ (by omega)
      have w2 : IntKind.i64.wrap (dg a k - dg b k - cyI c b k) = dg a k - dg b k - cyI c b k := IntWalk.i64_in _ (by omega)
      by_cases hneg : dg a k - dg b k - cyI c b k < 0
      · have HS := Lib.hid (show dg a k - dg b k - cyI c b k + 65536 = dg c k by omega)
        have HN := Lib.hid (show cyI c b (k + 1) = 1 by omega)
        have hn2 : -65537 ≤ dg a k - dg b k - cyI c b k := by omega
        clear hst
        go_wp2_with fail
        go_quiet (fail)
        go_wp2_with fail
        go_roundw
        case rel => exact ⟨k + 1, by omega, by go_num, by rw [HN.out], Lib.hid (by rw [HS.out]; exact (show FillingI (wr.drewN _) _ _ _ k 8 from HFL.out).step hlt (dl_len _) HX.out), (below_drewN hB0 _).setCell (Nat.le_refl _) _⟩
        case measure => (first | (simp [intOf]; done) | (simp [intOf]; omega) | (simp only [intOf]; omega))
      · have HS := Lib.hid (show dg a k - dg b k - cyI c b k = dg c k by omega)
        have HN := Lib.hid (show cyI c b (k + 1) = 0 by omega)
        clear hst
        go_wp2_with fail
        go_quiet (fail)
        go_wp2_with fail
        go_roundw
        case rel => exact ⟨k + 1, by omega, by go_num, by rw [HN.out], Lib.hid (by rw [HS.out]; exact (show FillingI (wr.drewN _) _ _ _ k 8 from HFL.out).step hlt (dl_len _) HX.out), (below_drewN hB0 _).setCell (Nat.le_refl _) _⟩
        case measure => (first | (simp [intOf]; done) | (simp [intOf]; omega) | (simp only [intOf]; omega))
    · obtain rfl : k = 8 := by omega
      have hrow : wr.heap[w.heap.size + 1 + 1 + 1]? = some (.cells (D c) 27 (0, 0)) := HFL.out.done (dl_len _)
      have hres : wr.heap[w.heap.size + 1 + 1]? = some (.cells zeros8 27 (0, 0)) := by rw [hB0.block _ (by omega)]; exact HC2.out
      have HRW := Lib.hid hrow
      have HRS := Lib.hid hres
      clear hrow hres
      have hst := st8 wr (w.heap.size + 1 + 1) c 27 HRS.out
      go_wp2_with (refine wpList_load_row rfl 27 _ rfl (w.heap.size + 1 + 1 + 1) rfl 27 (D c) (0, 0) _ HRW.out Try.underlying27 rfl (by kernel_rfl) ?_)
      refine bodyPost_ret (results_cell_row (p := 4) (ty := 27) rfl _ _ _ 27 (D c) (0, 0) _ rfl (setRow_heap _ _ _ _ _ _ HRS.out) Try.underlying27 rfl (by kernel_rfl)) rfl ⟨rfl, ?_⟩
      exact below_setRow (hW.trans (hB0.mono (by omega))) (by omega) _

end Go.Proofs.Ytlmaacbjbmhogaa
