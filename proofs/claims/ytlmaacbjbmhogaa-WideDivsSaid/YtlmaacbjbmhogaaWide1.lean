/- The document's own answers of layer 1 (dulcimerref01), digit by digit. -/
import Derived.Test.YtlmaacbjbmhogaaWide0
import Derived.Laws.CopyOwn
namespace Go.Proofs.Ytlmaacbjbmhogaa
open Go.ChangeShapes Go.WideShapes Go.ChangeAt Go.RowKit
set_option linter.unusedVariables false

/-- A block of one's own that holds the digits of n. -/
theorem dcell {w : World} {B : Nat} {T : TypeId} {n : Nat} (h : w.heap[B]? = some (.cells (D n) T (0, 0))) (k : Nat) (hk : k < 8) : w.cell? ⟨B, k, none⟩ = some (.int .i64 (dg n k)) := by
  rw [cell_of_row w B k _ _ _ h]
  unfold D
  rw [List.getElem?_toArray, List.getElem?_map]
  have : (dl n)[k]? = some (dg n k) := by
    have hl : k < (dl n).length := hk
    rw [List.getElem?_eq_getElem hl]
    have := dl_at n k hk
    simp only [List.getD, List.getElem?_eq_getElem hl, Option.getD_some] at this
    rw [this]
  rw [this]; rfl

def cyI (a b j : Nat) : Int := (cy a b j : Int)

theorem heap_alloc_newest (w : World) (o : Obj) (n : Nat) (h : w.heap.size = n) : (w.alloc o).heap[n]? = some o := by rw [← h]; exact heap_alloc_new w o
theorem heap_alloc_older (w : World) (o : Obj) (n : Nat) (x : Option Obj) (h : w.heap[n]? = x) (hn : n < w.heap.size) : (w.alloc o).heap[n]? = x := by rw [Below.heap_alloc w o n hn]; exact h

def zeros8 : Array Value := #[.int .i64 0, .int .i64 0, .int .i64 0, .int .i64 0, .int .i64 0, .int .i64 0, .int .i64 0, .int .i64 0]
theorem zeros8_fill (ys : List Int) : filli ys 0 8 = zeros8 := by rw [filli_zero]; rfl

theorem one8 (n : Nat) : ∀ v ∈ (D n).toList, v.oneCell' = true := by
  intro v hv
  have hv' : v ∈ (dl n).map (Value.int .i64) := hv
  obtain ⟨x, _, rfl⟩ := List.mem_map.1 hv'
  rfl
theorem st8 (w : World) (g n : Nat) (T : TypeId) (h : w.heap[g]? = some (.cells zeros8 T (0, 0))) : (storeCells ⟨g, 0, none⟩ (D n).toList).run Try.prog w = .ok () (w.setRow g (D n)) := by
  rw [run_storeCells_from g T (D n).toList 0 zeros8 w h rfl (one8 n)]
  simp

theorem dig_step (a b k : Nat) : (dg a k + dg b k + cyI a b k) % 65536 = dg (a + b) k := by
  unfold dg cyI; rw [dg_add a b k]; omega
theorem cy_next (a b k : Nat) : (dg a k + dg b k + cyI a b k) / 65536 = cyI a b (k + 1) := by
  unfold dg cyI; rw [cy_step a b k]; omega
theorem cyI_bd (a b k : Nat) : 0 ≤ cyI a b k ∧ cyI a b k ≤ 1 := by
  unfold cyI; have := cy_le a b k; omega

set_option maxRecDepth 100000 in
theorem r1_add (a b : Nat) (w : World) :
    Calls Try.prog 8 #[.agg (D a), .agg (D b)] w fun e w' => e = .returned (.agg (D (a + b))) ∧ Below w.heap.size w w' := by
  have HC := Lib.hid (show cyI a b 0 = 0 by unfold cyI; rw [cy_zero]; rfl)
  go_enter Try.func8, Try.ntmps8
  go_wp2_with fail
  have hA : ((((w.alloc (.cells (D a) 27)).alloc (.cells (D b) 27)).alloc (.cells zeros8 27)).alloc (.cells zeros8 27)).heap[w.heap.size]? = some (.cells (D a) 27 (0, 0)) :=
    heap_alloc_older _ _ _ _ (heap_alloc_older _ _ _ _ (heap_alloc2_old _ _ _) (by simp; omega)) (by simp; omega)
  have hB : ((((w.alloc (.cells (D a) 27)).alloc (.cells (D b) 27)).alloc (.cells zeros8 27)).alloc (.cells zeros8 27)).heap[w.heap.size + 1]? = some (.cells (D b) 27 (0, 0)) :=
    heap_alloc_older _ _ _ _ (heap_alloc_older _ _ _ _ (heap_alloc2_new _ _ _) (by simp)) (by simp)
  have hC : ((((w.alloc (.cells (D a) 27)).alloc (.cells (D b) 27)).alloc (.cells zeros8 27)).alloc (.cells zeros8 27)).heap[w.heap.size + 1 + 1]? = some (.cells zeros8 27 (0, 0)) :=
    heap_alloc_older _ _ _ _ (heap_alloc_newest _ _ _ (by simp)) (by simp)
  have hD : FillingI ((((w.alloc (.cells (D a) 27)).alloc (.cells (D b) 27)).alloc (.cells zeros8 27)).alloc (.cells zeros8 27)) (w.heap.size + 1 + 1 + 1) 27 (dl (a + b)) 0 8 := by
    unfold FillingI; rw [zeros8_fill]; exact heap_alloc_newest _ _ _ (by simp)
  have hW : Below w.heap.size w ((((w.alloc (.cells (D a) 27)).alloc (.cells (D b) 27)).alloc (.cells zeros8 27)).alloc (.cells zeros8 27)) := by go_grown
  have hsz : ((((w.alloc (.cells (D a) 27)).alloc (.cells (D b) 27)).alloc (.cells zeros8 27)).alloc (.cells zeros8 27)).heap.size = w.heap.size + 1 + 1 + 1 + 1 := by simp
  unfold zeros8 at hA hB hC hD hW hsz
  generalize ((((w.alloc (.cells (D a) 27)).alloc (.cells (D b) 27)).alloc _).alloc _) = W0 at *
  have HA := Lib.hid hA
  have HB := Lib.hid hB
  have HC2 := Lib.hid hC
  have HD := Lib.hid hD
  have HSZ := Lib.hid hsz
  clear hA hB hC hD hsz
  go_loopw [6, 7] (fun c i wr => ∃ k : Nat, k ≤ 8 ∧ i = .int .i64 k ∧ c = .int .i64 (cyI a b k) ∧ Hid (FillingI wr (w.heap.size + 1 + 1 + 1) 27 (dl (a + b)) k 8) ∧ Below (w.heap.size + 1 + 1 + 1) W0 wr) (fun _ i _ => 8 - (intOf i).toNat)
  case atStart => exact ⟨0, by omega, rfl, by rw [HC.out], HD, Below.refl _ _⟩
  case round =>
    obtain ⟨k, hk, rfl, rfl, HFL, hB0⟩ := hrel
    by_cases hlt : k < 8
    · have hk0 : (0 : Int) ≤ (k : Int) := by omega
      have hk8 : (k : Int) < 8 := by omega
      have hca : wr.cell? ⟨w.heap.size, k, none⟩ = some (.int .i64 (dg a k)) := (hB0.cell (p := ⟨w.heap.size, k, none⟩) (by show w.heap.size < _; omega)).trans (dcell HA.out k hlt)
      have hcb : wr.cell? ⟨w.heap.size + 1, k, none⟩ = some (.int .i64 (dg b k)) := (hB0.cell (p := ⟨w.heap.size + 1, k, none⟩) (by show w.heap.size + 1 < _; omega)).trans (dcell HB.out k hlt)
      obtain ⟨u, hu⟩ := HFL.out.cell hlt (dl_len _)
      have hfr := HFL.out.free k
      have a0 := dg_lo a k
      have a1 := dg_hi a k
      have b0 := dg_lo b k
      have b1 := dg_hi b k
      obtain ⟨c0, c1⟩ := cyI_bd a b k
      have HS := Lib.hid (dig_step a b k)
      have HN := Lib.hid (cy_next a b k)
      have HX := Lib.hid (dl_at (a + b) k hlt)
      have w1 : IntKind.i64.wrap (dg a k + dg b k) = dg a k + dg b k := IntWalk.i64_in _ (by omega)
      have w2 : IntKind.i64.wrap (dg a k + dg b k + cyI a b k) = dg a k + dg b k + cyI a b k := IntWalk.i64_in _ (by omega)
      go_wp2_with fail
      go_quiet (fail)
      go_wp2_with fail
      go_roundw
      case rel => exact ⟨k + 1, by omega, by go_num, by rw [HN.out], Lib.hid (by rw [HS.out]; exact (show FillingI (wr.drewN _) _ _ _ k 8 from HFL.out).step hlt (dl_len _) HX.out), (below_drewN hB0 _).setCell (Nat.le_refl _) _⟩
      case measure => (first | (simp [intOf]; done) | (simp [intOf]; omega) | (simp only [intOf]; omega))
    · obtain rfl : k = 8 := by omega
      have hrow : wr.heap[w.heap.size + 1 + 1 + 1]? = some (.cells (D (a + b)) 27 (0, 0)) := HFL.out.done (dl_len _)
      have hres : wr.heap[w.heap.size + 1 + 1]? = some (.cells zeros8 27 (0, 0)) := by rw [hB0.block _ (by omega)]; exact HC2.out
      have HRW := Lib.hid hrow
      have HRS := Lib.hid hres
      clear hrow hres
      have hst := st8 wr (w.heap.size + 1 + 1) (a + b) 27 HRS.out
      go_wp2_with (refine wpList_load_row rfl 27 _ rfl (w.heap.size + 1 + 1 + 1) rfl 27 (D (a + b)) (0, 0) _ HRW.out Try.underlying27 rfl (by kernel_rfl) ?_)
      refine bodyPost_ret (results_cell_row (p := 4) (ty := 27) rfl _ _ _ 27 (D (a + b)) (0, 0) _ rfl (setRow_heap _ _ _ _ _ _ HRS.out) Try.underlying27 rfl (by kernel_rfl)) rfl ⟨rfl, ?_⟩
      exact below_setRow (hW.trans (hB0.mono (by omega))) (by omega) _
end Go.Proofs.Ytlmaacbjbmhogaa
