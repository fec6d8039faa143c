/- package desc's Clone and At, for every tree and path. -/
import Derived.Test.YtfjioflggkmhcaaCloneg
import Derived.Test.YtfjioflggkmhcaaNodesg
import Derived.Test.YtfjioflggkmhcaaAtr
namespace Go.Proofs.Ytfjioflggkmhcaa
open Go.ChangeShapes Go.WideShapes Go.ChangeAt Go.RowKit
set_option linter.unusedVariables false
set_option linter.unusedSimpArgs false
theorem desc_clone (k n : Int) (v : Value) (f : Fo) (lim : Nat) (W : World) (hK : Kids W lim v f) (hl : lim ≤ W.heap.size) (hC : f.cnt ≤ 1048576) :
    Calls Try.prog 21 #[.agg #[.int .i64 k, .int .i64 n, v]] W fun e w' => ∃ F q, e = .returned (.agg #[.int .i64 k, .int .i64 n, kidv F 0 f.len]) ∧ Cloned w' F f q ∧ W.heap.size ≤ F ∧ Below W.heap.size W w' :=
  desc_clone_of k n v f lim W hK hl hC (fun w hb => desc_nodes k n v lim f w (hK.below hl hb) (by have := hb.size; omega) hC)
/-- The state of At's loop. -/
structure AtR (W wr : World) (xs : List Int) (O : Option (Int × Int × Fo)) (i : Nat) (k n : Int) (v : Value) (ks : Fo) : Prop where
  d0 : wr.heap[W.heap.size]? = some (.cells #[.int .i64 k, .int .i64 n, v] 24 (0, 0))
  d1 : wr.heap[W.heap.size + 1]? = some (.cells #[.int .i64 0, .int .i64 0, .slice none 0 0] 24 (0, 0))
  kd : Kids wr W.heap.size v ks
  be : Below W.heap.size W wr
  at' : O = atN k n ks (xs.drop i)
  cn : ks.cnt ≤ 1048576
  le : i ≤ xs.length
theorem kids_cnt : ∀ (f : Fo) (i : Nat), (f.kids i).cnt ≤ f.cnt
  | .nil, i => by simp [Fo.kids]
  | .cons k n ks r, 0 => by simp only [Fo.kids, Fo.cnt]; omega
  | .cons k n ks r, i + 1 => by have := kids_cnt r i; simp only [Fo.kids, Fo.cnt]; omega
set_option maxRecDepth 100000 in
set_option maxHeartbeats 4000000 in
theorem desc_at (xs : List Int) (k n : Int) (ks : Fo) (p : Option Addr) (m c lim : Nat) (a : Option Addr) (d : Nat) (W : World) (hK : Kids W lim (.slice p m c) ks) (hl : lim ≤ W.heap.size) (hr : RowI W a xs.length xs) (hd : xs.length ≤ d) (hd2 : d ≤ 9223372036854775807) (hC : ks.cnt ≤ 1048576) :
    Calls Try.prog 25 #[.agg #[.int .i64 k, .int .i64 n, .slice p m c], .slice a xs.length d] W fun e w' => AtG w'.heap.size (atN k n ks xs) e w' ∧ Below W.heap.size W w' := by
  obtain ⟨w0, hw0, r0, r1, hB, hs⟩ := clone_start W (.int .i64 k) (.int .i64 n) (.slice p m c) (.int .i64 0) (.int .i64 0) (.slice none 0 0) 24
  have l1 : W.heap.size + 1 < w0.heap.size := by omega
  have H0 := Lib.hid (show AtR W w0 xs (atN k n ks xs) 0 k n (.slice p m c) ks from ⟨r0, r1, (hK.mono hl).below (Nat.le_refl _) hB, hB, rfl, hC, Nat.zero_le _⟩)
  have HRow := Lib.hid hr
  obtain ⟨O, hO⟩ : ∃ O, atN k n ks xs = O := ⟨_, rfl⟩
  obtain ⟨N, hN⟩ : ∃ N, xs.length = N := ⟨_, rfl⟩
  rw [hO] at H0 ⊢
  rw [hN] at HRow hd ⊢
  clear hK r0 r1 hr hO
  go_enter Try.func25, Try.ntmps25
  go_wp2_with fail
  rw [← hw0]
  clear hw0 hB hs
  go_loopw [10] (fun x wr => ∃ (i : Nat) (k' n' : Int) (v' : Value) (ks' : Fo), x = .int .i64 i ∧ Hid (AtR W wr xs O i k' n' v' ks')) (fun x _ => N - (intOf x).toNat)
  case atStart => exact ⟨0, _, _, _, _, rfl, H0⟩
  case round =>
    clear H0
    obtain ⟨i, k', n', v', ks', rfl, H⟩ := hrel
    have hle := H.out.le
    obtain ⟨p', c', rfl, hc1, hc2⟩ := H.out.kd.form
    obtain ⟨x0, x1, x2, f0, f1, f2⟩ := row_cells3 H.out.d0
    have HZ := Lib.hid (row_put3 (a := .int .i64 0) (b := .int .i64 0) (c := .slice none 0 0) H.out.d1)
    have HZB := Lib.hid (below_put3 (g := W.heap.size + 1) H.out.be (by omega) (.int .i64 0) (.int .i64 0) (.slice none 0 0))
    by_cases hlt : i < N
    · have dd : decide ((i : Int) < (N : Int)) = true := decide_eq_true (by omega)
      obtain ⟨b, o, rfl, hb, hc, _⟩ := HRow.out.cell (k := i) (by omega)
      have hc := (H.out.be.cell (p := ⟨b, o + i, none⟩) hb).trans hc
      obtain ⟨y0, y1, y2, g0, g1, g2⟩ := row_cells3 H.out.d1
      obtain ⟨x, hx⟩ : ∃ x, xs.getD i 0 = x := ⟨_, rfl⟩
      rw [hx] at hc
      have hdr : xs.drop i = x :: xs.drop (i + 1) := by rw [← hx, List.getD_eq_getElem?_getD, List.getElem?_eq_getElem (by omega)]; exact List.drop_eq_getElem_cons (by omega)
      have hat := H.out.at'
      rw [hdr, atN] at hat
      have HAT := Lib.hid hat
      clear hat hdr hx
      by_cases hneg : x < 0
      · have d1 : decide (x < 0) = true := decide_eq_true hneg
        go_wp2_with fail
        refine bodyPost_ret (results_cell_tmp' (p := 4) (a := 5) (ty := 24) rfl _ _ _ 24 #[.int .i64 0, .int .i64 0, .slice none 0 0] (0, 0) _ (.bool false) rfl rfl HZ.out Try.underlying24 rfl (by kernel_rfl)) rfl ?_
        exact ⟨⟨0, 0, none, 0, 0, false, .nil, rfl, Kids.nought _ _, fun h => (by cases h), fun _ => ⟨by rw [HAT.out, if_pos (.inl hneg)], rfl, rfl, rfl⟩⟩, HZB.out⟩
      · have d1 : decide (x < 0) = false := decide_eq_false hneg
        obtain ⟨j, rfl⟩ : ∃ j : Nat, x = j := ⟨x.toNat, by omega⟩
        by_cases hj : j < ks'.len
        · have d2 : decide ((ks'.len : Int) ≤ (j : Int)) = false := decide_eq_false (by omega)
          obtain ⟨b', o', v, rfl, hb', q0, q1, q2, hKi⟩ := H.out.kd.get hj
          obtain ⟨p2, c2, rfl, hc3, hc4⟩ := hKi.form
          have j0 : (0 : Int) ≤ (j : Int) := by omega
          have j1 : (j : Int) < (ks'.len : Int) := by omega
          have HS := Lib.hid (show AtR W (((wr.setCell ⟨W.heap.size, 0, none⟩ (.int .i64 (ks'.k j))).setCell ⟨W.heap.size, 1, none⟩ (.int .i64 (ks'.n j))).setCell ⟨W.heap.size, 2, none⟩ (.slice p2 (ks'.kids j).len c2)) xs O (i + 1) (ks'.k j) (ks'.n j) (.slice p2 (ks'.kids j).len c2) (ks'.kids j) from
            ⟨row_put3 H.out.d0, by rw [heap_setCell_other _ _ _ _ (by show W.heap.size + 1 ≠ W.heap.size; omega), heap_setCell_other _ _ _ _ (by show W.heap.size + 1 ≠ W.heap.size; omega), heap_setCell_other _ _ _ _ (by show W.heap.size + 1 ≠ W.heap.size; omega)]; exact H.out.d1,
              hKi.carry (below_put3 (Below.refl _ _) (Nat.le_refl _) _ _ _), below_put3 H.out.be (Nat.le_refl _) _ _ _, by
                rw [HAT.out, if_neg (by omega)]; rfl, Nat.le_trans (kids_cnt _ _) H.out.cn, by omega⟩)
          clear H hKi y0 y1 y2 g0 g1 g2 HZ HZB
          go_wp2_with fail
          go_roundw
          case rel => exact ⟨i + 1, _, _, _, _, by go_num, HS⟩
          case measure => (first | (simp [intOf]; done) | (simp [intOf]; omega) | (simp only [intOf]; omega))
        · have d2 : decide ((ks'.len : Int) ≤ (j : Int)) = true := decide_eq_true (by omega)
          go_wp2_with fail
          refine bodyPost_ret (results_cell_tmp' (p := 4) (a := 5) (ty := 24) rfl _ _ _ 24 #[.int .i64 0, .int .i64 0, .slice none 0 0] (0, 0) _ (.bool false) rfl rfl HZ.out Try.underlying24 rfl (by kernel_rfl)) rfl ?_
          exact ⟨⟨0, 0, none, 0, 0, false, .nil, rfl, Kids.nought _ _, fun h => (by cases h), fun _ => ⟨by rw [HAT.out, if_pos (.inr (by omega))], rfl, rfl, rfl⟩⟩, HZB.out⟩
    · have hiN : i = N := by omega
      have hCn := H.out.cn
      have dd : decide ((i : Int) < (N : Int)) = false := decide_eq_false (by omega)
      have CL := Lib.hid (desc_clone k' n' (.slice p' ks'.len c') ks' W.heap.size wr H.out.kd H.out.be.size H.out.cn)
      have HAT := Lib.hid (show O = some (k', n', ks') by rw [H.out.at', List.drop_eq_nil_of_le (by omega)]; rfl)
      have HD1 := Lib.hid H.out.d1
      have HB := Lib.hid H.out.be
      clear H HZ HZB
      go_wp2_with fail
      refine (CL.out).mono ?_
      rintro e w6 ⟨F, q, rfl, hq, hF, b6⟩
      obtain ⟨ka, kc, hkv⟩ := kidv_form F 0 ks'.len
      rw [hkv]
      have s1 := (b6.block _ (Array.getElem?_eq_some_iff.1 HD1.out).1).trans HD1.out
      have hB6 := HB.out.trans (b6.mono HB.out.size)
      have hz6 := HB.out.size
      have hz1 := (Array.getElem?_eq_some_iff.1 HD1.out).1
      have HQ := Lib.hid hq
      clear b6 hq x0 x1 x2 f0 f1 f2
      obtain ⟨y0, y1, y2, g0, g1, g2⟩ := row_cells3 s1
      have HR := Lib.hid (row_put3 (a := .int .i64 k') (b := .int .i64 n') (c := .slice ka ks'.len kc) s1)
      have HBB := Lib.hid (below_put3 (g := W.heap.size + 1) hB6 (by omega) (.int .i64 k') (.int .i64 n') (.slice ka ks'.len kc))
      have HK := Lib.hid (show Kids (((w6.setCell ⟨W.heap.size + 1, 0, none⟩ (.int .i64 k')).setCell ⟨W.heap.size + 1, 1, none⟩ (.int .i64 n')).setCell ⟨W.heap.size + 1, 2, none⟩ (.slice ka ks'.len kc)) (((w6.setCell ⟨W.heap.size + 1, 0, none⟩ (.int .i64 k')).setCell ⟨W.heap.size + 1, 1, none⟩ (.int .i64 n')).setCell ⟨W.heap.size + 1, 2, none⟩ (.slice ka ks'.len kc)).heap.size (.slice ka ks'.len kc) ks' by
        rw [← hkv]
        refine Cloned.kids (q := q) (HQ.out.below ?_ (by simp)) (by have := HQ.out.blk; simp; omega) (by omega)
        rw [heap_setCell_other _ _ _ _ (by show F ≠ W.heap.size + 1; omega), heap_setCell_other _ _ _ _ (by show F ≠ W.heap.size + 1; omega), heap_setCell_other _ _ _ _ (by show F ≠ W.heap.size + 1; omega)])
      clear s1 hB6
      go_wp2_with fail
      refine bodyPost_ret (results_cell_tmp' (p := 4) (a := 5) (ty := 24) rfl _ _ _ 24 #[.int .i64 k', .int .i64 n', .slice ka ks'.len kc] (0, 0) _ (.bool true) rfl rfl HR.out Try.underlying24 rfl (by kernel_rfl)) rfl ?_
      exact ⟨⟨k', n', ka, _, kc, true, ks', rfl, HK.out, fun _ => HAT.out, fun h => by cases h⟩, HBB.out⟩
end Go.Proofs.Ytfjioflggkmhcaa
