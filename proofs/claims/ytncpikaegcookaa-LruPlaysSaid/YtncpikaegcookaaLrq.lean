/- lru: Keys, Len, Room, New. -/
import Derived.Test.YtncpikaegcookaaLrp
import Derived.Test.YtncpikaegcookaaSamei
namespace Go.Proofs.Ytncpikaegcookaa
open Go.ChangeShapes Go.WideShapes Go.ChangeAt Go.RowKit
set_option linter.unusedVariables false
open Go.WideMaps Go.MapKept Go.WideElems Go.ChangeMaps Go.Maps
set_option linter.unusedSimpArgs false
theorem i64_wf {k : Int} (hk : -9223372036854775808 ≤ k ∧ k ≤ 9223372036854775807) : (Lit.int .i64 k).wf = true := by
  simp [Lit.wf, IntKind.min, IntKind.max, IntKind.signed, IntKind.bits]; omega
theorem meas_step (n k : Nat) (h : k < n) : n - ((k : Int) + 1).toNat < n - (k : Int).toNat := by omega
theorem meas_step' (n k : Nat) (h : k < n) : n - (((k + 1 : Nat) : Int)).toNat < n - (k : Int).toNat := by omega
theorem l_room (B0 Lb : Nat) (room : Int) (s : List (Int × Int)) (W : World) (h : Lru W B0 Lb room s) :
    Calls Try.prog 9 #[.pointer (some ⟨Lb, 0, none⟩)] W fun e w' => e = .returned (.int .i64 room) ∧ w' = W := by
  obtain ⟨F, M, v, zs, es, ck, h, rfl⟩ := h
  obtain ⟨c0, c1, c2, f1⟩ := h.l.cells
  have hlb := h.l.lt
  clear h
  go_enter Try.func9, Try.ntmps9
  go_wp2_with fail
  go_ret
  exact ⟨rfl, rfl⟩
theorem l_len (B0 Lb : Nat) (room : Int) (s : List (Int × Int)) (W : World) (h : Lru W B0 Lb room s) :
    Calls Try.prog 20 #[.pointer (some ⟨Lb, 0, none⟩)] W fun e w' => e = .returned (.int .i64 (s.length : Nat)) ∧ w' = W := by
  obtain ⟨F, M, v, zs, es, ck, h, rfl⟩ := h
  obtain ⟨c0, c1, c2, f1⟩ := h.l.cells
  have hlb := h.l.lt
  obtain ⟨p, c, rfl⟩ := h.f.slice
  rw [List.length_map] at *
  clear h
  go_enter Try.func20, Try.ntmps20
  go_wp2_with fail
  go_ret
  exact ⟨rfl, rfl⟩
set_option maxRecDepth 100000 in
set_option maxHeartbeats 4000000 in
theorem l_keys (B0 Lb : Nat) (room : Int) (s : List (Int × Int)) (W : World) (h : Lru W B0 Lb room s) :
    Calls Try.prog 19 #[.pointer (some ⟨Lb, 0, none⟩)] W (GivesI W s.length (s.map Prod.fst)) := by
  obtain ⟨F, M, v, zs, es, ck, h, rfl⟩ := h
  have H := Lib.hid h
  obtain ⟨c0, c1, c2, f1⟩ := h.l.cells
  have hlb := h.l.lt
  obtain ⟨p, c, hv⟩ := h.f.slice
  subst hv
  rw [List.length_map] at c1 ⊢
  obtain ⟨n, hn⟩ : ∃ n, zs.length = n := ⟨_, rfl⟩
  rw [hn] at c1 ⊢
  obtain ⟨ys, hys⟩ : ∃ ys, (zs.map Prod.snd).map Prod.fst = ys := ⟨_, rfl⟩
  rw [hys]
  have hyl : ys.length = n := by rw [← hys]; simp [hn]
  have hmk := make_i64 n (by have := h.sz; omega)
  have HYL := Lib.hid hyl
  have HAT := Lib.hid (show ∀ k, k < n → ∃ (z : Nat × Int × Int), z ∈ zs ∧ (∃ cap, p = some ⟨F, 0, none⟩ ∧ n ≤ cap ∧ c = cap) ∧ W.cell? ⟨F, k, none⟩ = some (ptr z.1) ∧ F < W.heap.size ∧ ys.getD k 0 = z.2.1 from fun k hk => by
    obtain ⟨z, hz⟩ : ∃ z, zs[k]? = some z := ⟨_, List.getElem?_eq_getElem (by omega)⟩
    obtain ⟨cap, e1, e2, e3, e4⟩ := h.f.at (j := k) (map_get hz).2
    simp only [Value.slice.injEq] at e1
    refine ⟨z, List.mem_of_getElem? hz, ⟨cap, e1.1, ?_, e1.2.2⟩, e3, e4, ?_⟩
    · rw [List.length_map, hn] at e2; exact e2
    · rw [← hys, List.map_map, List.getD_eq_getElem?_getD, List.getElem?_map, hz]; rfl)
  have HW := Lib.hid (show ∀ x ∈ ys, (Lit.int .i64 x).wf = true from fun x hx => by
    rw [← hys, List.map_map] at hx
    obtain ⟨z, hz, rfl⟩ := List.mem_map.1 hx
    exact i64_wf (h.r z hz))
  have HN := Lib.hid (show n ≤ 1000 by have := h.sz; omega)
  have F0 := Lib.hid (FillingI.start W 3 ys n)
  have hB0 := (Below.refl W.heap.size W).alloc (Nat.le_refl _) (.cells (Array.replicate n (.int .i64 0)) 3)
  obtain ⟨w1, hw1⟩ : ∃ w1, W.alloc (.cells (Array.replicate n (.int .i64 0)) 3) = w1 := ⟨_, rfl⟩
  rw [hw1] at F0 hB0
  have HB0 := Lib.hid hB0
  have HW1 := Lib.hid hw1
  have c1' : w1.cell? ⟨Lb, 1, none⟩ = _ := (hB0.cell (p := ⟨Lb, 1, none⟩) hlb).trans c1
  have hlb' : Lb < w1.heap.size := by have := hB0.size; omega
  clear h hn hys hyl hw1 hB0
  go_enter Try.func19, Try.ntmps19
  go_upto_region 4 with fail
  rw [HW1.out]
  go_wp2_with fail
  clear c0 c1 c2 c1' hlb' f1
  go_loopw [19] (fun i wr => ∃ k : Nat, k ≤ n ∧ i = .int .i64 k ∧ Hid (FillingI wr W.heap.size 3 ys k n) ∧ Below W.heap.size W wr) (fun i _ => n - (intOf i).toNat)
  case atStart => exact ⟨0, Nat.zero_le _, rfl, F0, HB0.out⟩
  case round =>
    obtain ⟨k, hk, rfl, HF, hB⟩ := hrel
    have hsz := HF.out.lt
    by_cases hlt : k < n
    · obtain ⟨z, hz, ⟨cap, rfl, hcap, rfl⟩, hc0, hFl, hyk⟩ := HAT.out k hlt
      have hc : wr.cell? ⟨F, k, none⟩ = some (ptr z.1) := (hB.cell (p := ⟨F, k, none⟩) hFl).trans hc0
      have hFl2 : F < wr.heap.size := by have := hB.size; omega
      have ht := H.out.t z hz
      have hzl := g_lt ht
      have hkc : wr.cell? ⟨z.1, 0, none⟩ = some (.int .i64 z.2.1) := (hB.cell (p := ⟨z.1, 0, none⟩) hzl).trans (by rw [cell_of_row _ _ _ _ _ _ ht]; rfl)
      have hzl2 : z.1 < wr.heap.size := by have := hB.size; omega
      have hst := Lib.hid (HF.out.step hlt HYL.out hyk)
      obtain ⟨u, hu⟩ := HF.out.cell hlt HYL.out
      have hfr := HF.out.free k
      have WR := Lib.hid (show wrap64 ((k : Int) + 1) = ((k + 1 : Nat) : Int) by have := HN.out; simp only [wrap64]; omega)
      unfold ptr at hc
      clear hc0 ht hz hyk
      go_wp2_with fail
      go_roundw
      case rel => exact ⟨k + 1, hlt, by first | rw [WR.out] | simp, hst, hB.setCell (Nat.le_refl _) _⟩
      case measure =>
        first | exact meas_step n k hlt | (rw [WR.out]; exact meas_step' n k hlt)
    · obtain rfl : k = n := by omega
      go_wp2_with fail
      go_ret
      exact ⟨_, _, rfl, RowI.of_at (HF.out.done HYL.out) HW.out HYL.out (by have := HN.out; omega), hB⟩
set_option maxRecDepth 100000 in
theorem l_new (room : Int) (hr : 1 ≤ room ∧ room ≤ 64) (W : World) :
    Calls Try.prog 7 #[.int .i64 room] W fun e w' => ∃ Lb, e = .returned (.tuple #[.pointer (some ⟨Lb, 0, none⟩), .int .i64 0]) ∧ Lru w' W.heap.size Lb room [] ∧ Below W.heap.size W w' := by
  obtain ⟨w1, hw1⟩ : ∃ w1, W.alloc (.map #[] 0) = w1 := ⟨_, rfl⟩
  obtain ⟨w2, hw2⟩ : ∃ w2, w1.alloc (.cells #[.int .i64 room, .slice none 0 0, .map (some W.heap.size)] 51) = w2 := ⟨_, rfl⟩
  have hs1 : w1.heap.size = W.heap.size + 1 := by rw [← hw1]; simp
  have E := Lib.hid (show Lru w2 W.heap.size w1.heap.size room [] ∧ Below W.heap.size W w2 from by
    have b1 : Below W.heap.size W w1 := by rw [← hw1]; exact (Below.refl _ _).alloc (Nat.le_refl _) _
    have b2 : Below w1.heap.size w1 w2 := by rw [← hw2]; exact (Below.refl _ _).alloc (Nat.le_refl _) _
    have hm : w1.heap[W.heap.size]? = some (.map (([] : List MapEntry)).toArray 0) := by rw [← hw1]; exact heap_alloc_new _ _
    refine ⟨⟨0, W.heap.size, .slice none 0 0, [], [], 0, ⟨?_, .inl ⟨rfl, rfl⟩, ?_, List.nodup_nil, List.nodup_nil, ?_, (b2.block _ (by omega)).trans hm, ?_, ?_, ?_, ⟨by omega, Nat.le_refl _, ?_, ?_⟩, by simp⟩, rfl⟩, b1.trans (b2.mono (by omega))⟩
    · rw [← hw2]; exact heap_alloc_new _ _
    · intro z hz; cases hz
    · intro z hz; cases hz
    · intro z hz; cases hz
    · intro z hz; cases hz
    · intro i j x y hi; simp at hi
    · intro X hX; cases hX
    · intro z hz; cases hz)
  have HW1 := Lib.hid hw1
  have HW2 := Lib.hid hw2
  obtain ⟨h1, h2⟩ := hr
  have hmm := @run_makeMap Try.prog
  clear hw1 hw2
  go_enter Try.func7, Try.ntmps7
  go_wp2_with fail
  rw [HW1.out]
  rw [HW2.out]
  go_ret2
  exact ⟨W.heap.size + 1, rfl, by have := E.out.1; rw [hs1] at this; exact this, E.out.2⟩
end Go.Proofs.Ytncpikaegcookaa
