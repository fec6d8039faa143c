/- Entries: Same on both sides; reference 24's Much and Line. -/
import Derived.Test.YtakhgjhnljbfiaaGreatDoorEntl
namespace Go.Proofs.YtakhgjhnljbfiaaGreatDoor
open Go.ChangeShapes Go.WideShapes Go.ChangeAt Go.RowKit
set_option linter.unusedVariables false
set_option linter.unusedSimpArgs false
set_option maxRecDepth 100000 in
set_option maxHeartbeats 4000000 in
theorem r24_same (ks ks' : Fo) (v v' : Value) (a b k n a' b' k' n' : Int) (lim : Nat) (W : World) (hK : Kids W lim v ks) (hK' : Kids W lim v' ks') (hl : lim ≤ W.heap.size) :
    Calls Tryz.prog 13 #[.agg #[.int .i64 a, .int .i64 b, .int .i64 k, .int .i64 n, v], .agg #[.int .i64 a', .int .i64 b', .int .i64 k', .int .i64 n', v']] W fun e w' => e = .returned (.bool (decide ((a = a' ∧ b = b') ∧ cmpN k n ks k' n' ks' = 0))) ∧ Below W.heap.size W w' := by
  by_cases hk : a = a' ∧ b = b'
  · obtain ⟨rfl, rfl⟩ := hk
    rw [show decide ((a = a ∧ b = b) ∧ cmpN k n ks k' n' ks' = 0) = decide (cmpN k n ks k' n' ks' = 0) by simp]
    exact r24_same1 ks ks' v v' a b k n k' n' lim W hK hK' hl
  obtain ⟨p, m, c, rfl, -, -, -⟩ := hK.shape
  obtain ⟨p', m', c', rfl, -, -, -⟩ := hK'.shape
  obtain ⟨w0, hw0, r0, hB0, hs0⟩ := box5 W a b k n (.slice p m c) 28
  obtain ⟨w1, hw1, r1, hB1, hs1⟩ := box5 w0 a' b' k' n' (.slice p' m' c') 28
  have r0 := (hB1.block _ (by omega)).trans r0
  rw [hs0] at r1
  have hB := hB0.trans (hB1.mono hB0.size)
  have HW1 := Lib.hid (show (W.alloc (.cells #[.int .i64 a, .int .i64 b, .int .i64 k, .int .i64 n, .slice p m c] 28)).alloc (.cells #[.int .i64 a', .int .i64 b', .int .i64 k', .int .i64 n', .slice p' m' c'] 28) = w1 by rw [hw1, hw0])
  obtain ⟨x0, x1, x2, x3, x4⟩ := cells5 r0
  obtain ⟨y0, y1, y2, y3, y4⟩ := cells5 r1
  rw [decide_eq_false (show ¬ ((a = a' ∧ b = b') ∧ cmpN k n ks k' n' ks' = 0) from fun h => hk h.1)]
  have KE := key_eq a b a' b'
  rw [decide_eq_false hk] at KE
  clear hK hK' r0 r1 hw0 hw1 hB0 hB1 hs0 hs1 hk
  go_enter Tryz.func13, Tryz.ntmps13
  go_upto_region 1 with fail
  rw [HW1.out]
  go_wp2_with fail
  go_ret
  exact ⟨rfl, hB⟩
set_option maxRecDepth 100000 in
set_option maxHeartbeats 4000000 in
theorem e_same (ks ks' : Fo) (v v' : Value) (a b k n a' b' k' n' : Int) (lim : Nat) (W : World) (hK : Kids W lim v ks) (hK' : Kids W lim v' ks') (hl : lim ≤ W.heap.size) :
    Calls Tryz.prog 12 #[.agg #[.int .i64 a, .int .i64 b, .int .i64 k, .int .i64 n, v], .agg #[.int .i64 a', .int .i64 b', .int .i64 k', .int .i64 n', v']] W fun e w' => e = .returned (.bool (decide ((a = a' ∧ b = b') ∧ cmpN k n ks k' n' ks' = 0))) ∧ Below W.heap.size W w' := by
  obtain ⟨p, m, c, rfl, -, -, -⟩ := hK.shape
  obtain ⟨p', m', c', rfl, -, -, -⟩ := hK'.shape
  obtain ⟨w0, hw0, r0, hB0, hs0⟩ := box5 W a b k n (.slice p m c) 28
  obtain ⟨w1, hw1, r1, hB1, hs1⟩ := box5 w0 a' b' k' n' (.slice p' m' c') 28
  have r0 := (hB1.block _ (by omega)).trans r0
  rw [hs0] at r1
  have hB := hB0.trans (hB1.mono hB0.size)
  have HW1 := Lib.hid (show (W.alloc (.cells #[.int .i64 a, .int .i64 b, .int .i64 k, .int .i64 n, .slice p m c] 28)).alloc (.cells #[.int .i64 a', .int .i64 b', .int .i64 k', .int .i64 n', .slice p' m' c'] 28) = w1 by rw [hw1, hw0])
  have SM := desc_same ks ks' (.slice p m c) (.slice p' m' c') k n k' n' lim w1 (hK.below hl hB) (hK'.below hl hB) (by omega)
  obtain ⟨x0, x1, x2, x3, x4⟩ := cells5 r0
  obtain ⟨y0, y1, y2, y3, y4⟩ := cells5 r1
  have KE := key_eq a b a' b'
  by_cases hk : a = a' ∧ b = b'
  · obtain ⟨rfl, rfl⟩ := hk
    rw [show decide ((a = a ∧ b = b) ∧ cmpN k n ks k' n' ks' = 0) = decide (cmpN k n ks k' n' ks' = 0) by simp]
    simp only [and_self, decide_true] at KE
    generalize decide (cmpN k n ks k' n' ks' = 0) = z at *
    clear hK hK' r0 r1 hw0 hw1 hB0 hB1 hs0 hs1
    go_enter Tryz.func12, Tryz.ntmps12
    go_upto_region 1 with fail
    rw [HW1.out]
    go_wp2_with fail
    refine SM.mono ?_
    rintro e w2 ⟨rfl, hb2⟩
    go_wp2_with fail
    go_ret
    exact ⟨rfl, hB.trans (hb2.mono hB.size)⟩
  · rw [decide_eq_false (show ¬ ((a = a' ∧ b = b') ∧ cmpN k n ks k' n' ks' = 0) from fun h => hk h.1)]
    rw [decide_eq_false hk] at KE
    clear hK hK' r0 r1 hw0 hw1 hB0 hB1 hs0 hs1 hk SM
    go_enter Tryz.func12, Tryz.ntmps12
    go_upto_region 1 with fail
    rw [HW1.out]
    go_wp2_with fail
    go_ret
    exact ⟨rfl, hB⟩
/-- A row of two entries. -/
theorem cells10 {w : World} {g : Nat} {a b c d e f i j k l : Value} {T : TypeId} (h : w.heap[g]? = some (.cells #[a, b, c, d, e, f, i, j, k, l] T (0, 0))) : w.cell? ⟨g, 2, none⟩ = some c ∧ w.cell? ⟨g, 3, none⟩ = some d ∧ w.cell? ⟨g, 4, none⟩ = some e ∧ w.cell? ⟨g, 7, none⟩ = some j ∧ w.cell? ⟨g, 8, none⟩ = some k ∧ w.cell? ⟨g, 9, none⟩ = some l :=
  ⟨cell_of_row _ _ _ _ _ _ h, cell_of_row _ _ _ _ _ _ h, cell_of_row _ _ _ _ _ _ h, cell_of_row _ _ _ _ _ _ h, cell_of_row _ _ _ _ _ _ h, cell_of_row _ _ _ _ _ _ h⟩
set_option maxRecDepth 100000 in
set_option maxHeartbeats 4000000 in
theorem r24_much2 (ks ks' : Fo) (p p' : Option Addr) (m c m' c' : Nat) (a b k n a' b' k' n' : Int) (lim g : Nat) (T : TypeId) (W : World) (hN : ks.cnt + 1 ≤ 1048576) (hN' : ks'.cnt + 1 ≤ 1048576) (hK : Kids W lim (.slice p m c) ks) (hK' : Kids W lim (.slice p' m' c') ks') (hl : lim ≤ W.heap.size) (hg : g < W.heap.size)
    (hr : W.heap[g]? = some (.cells #[.int .i64 a, .int .i64 b, .int .i64 k, .int .i64 n, .slice p m c, .int .i64 a', .int .i64 b', .int .i64 k', .int .i64 n', .slice p' m' c'] T (0, 0))) :
    Calls Tryz.prog 7 #[.slice (some ⟨g, 0, none⟩) 2 2] W fun e w' => e = .returned (.bool (decide (80 < ks.cnt + 1) || decide (80 < ks'.cnt + 1))) ∧ Below W.heap.size W w' := by
  have HK := Lib.hid hK
  have HK' := Lib.hid hK'
  have HR := Lib.hid hr
  clear hK hK' hr
  have Z : Hid (¬ 80 < ks.cnt + 1 → ¬ 80 < ks'.cnt + 1 → (decide (80 < ks.cnt + 1) || decide (80 < ks'.cnt + 1)) = false) := Lib.hid (fun h1 h2 => by rw [decide_eq_false h1, decide_eq_false h2]; rfl)
  have Z1 : Hid (80 < ks.cnt + 1 → (decide (80 < ks.cnt + 1) || decide (80 < ks'.cnt + 1)) = true) := Lib.hid (fun h1 => by rw [decide_eq_true h1]; rfl)
  have Z2 : Hid (80 < ks'.cnt + 1 → (decide (80 < ks.cnt + 1) || decide (80 < ks'.cnt + 1)) = true) := Lib.hid (fun h1 => by rw [decide_eq_true h1, Bool.or_true])
  generalize (decide (80 < ks.cnt + 1) || decide (80 < ks'.cnt + 1)) = z at *
  go_enter Tryz.func7, Tryz.ntmps7
  go_wp2_with fail
  go_loopw [3] (fun i wr => ∃ j : Nat, j ≤ 2 ∧ i = .int .i64 j ∧ Hid (1 ≤ j → ¬ 80 < ks.cnt + 1) ∧ Hid (2 ≤ j → ¬ 80 < ks'.cnt + 1) ∧ Hid (Below W.heap.size W wr)) (fun i _ => 2 - (intOf i).toNat)
  case atStart => exact ⟨0, by omega, rfl, Lib.hid (fun h => by omega), Lib.hid (fun h => by omega), Lib.hid (Below.refl _ _)⟩
  case round =>
    obtain ⟨j, hj, rfl, H1, H2, HB⟩ := hrel
    have hbz := HB.out.size
    have r := (HB.out.block g hg).trans HR.out
    obtain ⟨x2, x3, x4, x7, x8, x9⟩ := cells10 r
    rcases (by omega : j = 0 ∨ j = 1 ∨ j = 2) with rfl | rfl | rfl
    · have MU := r13_much ks (.slice p m c) k n lim wr (by omega) (HK.out.below hl HB.out) (by omega)
      by_cases hm : 80 < ks.cnt + 1
      · rw [decide_eq_true hm] at MU
        have E := Lib.hid (Z1.out hm)
        clear hm
        go_wp2_with fail
        refine MU.mono ?_
        rintro e w1 ⟨rfl, hb1⟩
        go_wp2_with fail
        go_ret
        exact ⟨by rw [E.out]; rfl, HB.out.trans (hb1.mono hbz)⟩
      · rw [decide_eq_false hm] at MU
        have HM := Lib.hid hm
        clear hm
        go_wp2_with fail
        refine MU.mono ?_
        rintro e w1 ⟨rfl, hb1⟩
        have HB1 := Lib.hid (HB.out.trans (hb1.mono hbz))
        clear hb1
        go_wp2_with fail
        go_roundw
        case rel => exact ⟨1, by omega, by go_num, Lib.hid (fun _ => HM.out), Lib.hid (fun h => by omega), HB1⟩
        case measure => (first | (simp [intOf]; done) | (simp [intOf]; omega) | (simp only [intOf]; omega))
    · have MU := r13_much ks' (.slice p' m' c') k' n' lim wr (by omega) (HK'.out.below hl HB.out) (by omega)
      by_cases hm : 80 < ks'.cnt + 1
      · rw [decide_eq_true hm] at MU
        have E := Lib.hid (Z2.out hm)
        clear hm
        go_wp2_with fail
        refine MU.mono ?_
        rintro e w1 ⟨rfl, hb1⟩
        go_wp2_with fail
        go_ret
        exact ⟨by rw [E.out]; rfl, HB.out.trans (hb1.mono hbz)⟩
      · rw [decide_eq_false hm] at MU
        have HM := Lib.hid hm
        clear hm
        go_wp2_with fail
        refine MU.mono ?_
        rintro e w1 ⟨rfl, hb1⟩
        have HB1 := Lib.hid (HB.out.trans (hb1.mono hbz))
        clear hb1
        go_wp2_with fail
        go_roundw
        case rel => exact ⟨2, by omega, by go_num, Lib.hid (fun _ => H1.out (by omega)), Lib.hid (fun _ => HM.out), HB1⟩
        case measure => (first | (simp [intOf]; done) | (simp [intOf]; omega) | (simp only [intOf]; omega))
    · have E := Lib.hid (Z.out (H1.out (by omega)) (H2.out (by omega)))
      have HB1 := HB
      go_wp2_with fail
      go_ret
      exact ⟨by rw [E.out]; rfl, HB1.out⟩
theorem ba_app (x y : ByteArray) : (x ++ y).data.toList = x.data.toList ++ y.data.toList := by rw [ByteArray.data_append, Array.toList_append]
def lnS (a b k n : Int) (ks : Fo) : ByteArray := ((((baL (Lib.decDigits a.toNat) ++ ⟨#[32]⟩) ++ baL (Lib.decDigits b.toNat)) ++ ⟨#[32]⟩) ++ txS k n ks)
theorem lnS_list (a b k n : Int) (ks : Fo) : (lnS a b k n ks).data.toList = lnB a b k n ks := by
  unfold lnS lnB
  rw [ba_app, ba_app, ba_app, ba_app, baL_list, baL_list, txS_list]
  simp
set_option maxRecDepth 100000 in
set_option maxHeartbeats 8000000 in
theorem r24_line (ks : Fo) (v : Value) (a b k n : Int) (lim : Nat) (W : World) (hN : ks.cnt ≤ 79) (hK : Kids W lim v ks) (hl : lim ≤ W.heap.size) (wa : 0 ≤ a ∧ a ≤ 999999999) (wb : 0 ≤ b ∧ b ≤ 999999999) (hok : (Fo.cons k n ks .nil).okT) :
    Calls Tryz.prog 15 #[.agg #[.int .i64 a, .int .i64 b, .int .i64 k, .int .i64 n, v]] W fun e w' => e = .returned (.string (lnS a b k n ks)) ∧ Below W.heap.size W w' := by
  obtain ⟨p, m, c, rfl, -, -, -⟩ := hK.shape
  obtain ⟨w0, hw0, r0, hB0, hs0⟩ := box5 W a b k n (.slice p m c) 28
  have hla := (dec_len (n := a.toNat) (by omega)).2
  have hlb := (dec_len (n := b.toNat) (by omega)).2
  have hlt := txB_le _ hok
  have e4 : (Fo.cons k n ks .nil).cnt = ks.cnt + 0 + 1 := rfl
  have ea : (baL (Lib.decDigits a.toNat)).size ≤ 9 := by rw [Lib.size_eq, baL_list]; exact hla
  have eb : (baL (Lib.decDigits b.toNat)).size ≤ 9 := by rw [Lib.size_eq, baL_list]; exact hlb
  have et : (txS k n ks).size ≤ 1400 := by rw [txS_size]; show (txB _).length ≤ _; omega
  have DA := Lib.hid (fun w => ((by
    have h := ref_digits a.toNat (by omega) w
    rw [Int.toNat_of_nonneg wa.1] at h
    exact h.mono (fun e w' h => by
      obtain ⟨h1, s, h2, h3⟩ := h
      rw [ba_ext (h2.trans (baL_list _).symm)] at h3
      exact ⟨h3, h1⟩)) : Calls Tryz.prog 36 #[.int .i64 a] w fun e w' => e = .returned (.string (baL (Lib.decDigits a.toNat))) ∧ w = w'))
  have DB := Lib.hid (fun w => ((by
    have h := ref_digits b.toNat (by omega) w
    rw [Int.toNat_of_nonneg wb.1] at h
    exact h.mono (fun e w' h => by
      obtain ⟨h1, s, h2, h3⟩ := h
      rw [ba_ext (h2.trans (baL_list _).symm)] at h3
      exact ⟨h3, h1⟩)) : Calls Tryz.prog 36 #[.int .i64 b] w fun e w' => e = .returned (.string (baL (Lib.decDigits b.toNat))) ∧ w = w'))
  have TX := Lib.hid (fun w' (hb : Below w0.heap.size w0 w') => r23_text 79 ks (.slice p m c) k n lim w' hN (by decide) ((hK.below hl hB0).carry (hb.mono (by omega))) (by have := hb.size; omega) hok)
  unfold lnS
  generalize baL (Lib.decDigits a.toNat) = u at *
  generalize baL (Lib.decDigits b.toNat) = x at *
  generalize txS k n ks = y at *
  have z1 : (u ++ ⟨#[32]⟩ : ByteArray).size ≤ 10 := by rw [ByteArray.size_append]; show u.size + 1 ≤ 10; omega
  have A1 : ∀ wx : World, (Op.stringOp .add u ⟨#[32]⟩).run Tryz.prog wx = .ok (.string (u ++ ⟨#[32]⟩)) wx := fun wx => run_string_add_sum wx _ _ (by show u.size + 1 ≤ _; omega)
  generalize (u ++ ⟨#[32]⟩ : ByteArray) = u1 at *
  have z2 : (u1 ++ x).size ≤ 19 := by rw [ByteArray.size_append]; omega
  have A2 : ∀ wx : World, (Op.stringOp .add u1 x).run Tryz.prog wx = .ok (.string (u1 ++ x)) wx := fun wx => run_string_add_sum wx _ _ (by omega)
  generalize u1 ++ x = u2 at *
  have z3 : (u2 ++ ⟨#[32]⟩ : ByteArray).size ≤ 20 := by rw [ByteArray.size_append]; show u2.size + 1 ≤ 20; omega
  have A3 : ∀ wx : World, (Op.stringOp .add u2 ⟨#[32]⟩).run Tryz.prog wx = .ok (.string (u2 ++ ⟨#[32]⟩)) wx := fun wx => run_string_add_sum wx _ _ (by show u2.size + 1 ≤ _; omega)
  generalize (u2 ++ ⟨#[32]⟩ : ByteArray) = u3 at *
  have A4 : ∀ wx : World, (Op.stringOp .add u3 y).run Tryz.prog wx = .ok (.string (u3 ++ y)) wx := fun wx => run_string_add_sum wx _ _ (by omega)
  generalize u3 ++ y = u4 at *
  have HW0 := Lib.hid hw0
  have MK := Lib.hid (fun w' (hb : Below w0.heap.size w0 w') => (show w'.cell? ⟨W.heap.size, 0, none⟩ = some (.int .i64 a) ∧ w'.cell? ⟨W.heap.size, 1, none⟩ = some (.int .i64 b) ∧ w'.cell? ⟨W.heap.size, 2, none⟩ = some (.int .i64 k) ∧ w'.cell? ⟨W.heap.size, 3, none⟩ = some (.int .i64 n) ∧ w'.cell? ⟨W.heap.size, 4, none⟩ = some (.slice p m c) ∧ Below w0.heap.size w0 w' from by
    obtain ⟨x0, x1, x2, x3, x4⟩ := cells5 ((hb.block W.heap.size (by omega)).trans r0)
    exact ⟨x0, x1, x2, x3, x4, hb⟩))
  have KP := Lib.hid (fun (w1 w' : World) (hS : w1.cell? ⟨W.heap.size, 0, none⟩ = some (.int .i64 a) ∧ w1.cell? ⟨W.heap.size, 1, none⟩ = some (.int .i64 b) ∧ w1.cell? ⟨W.heap.size, 2, none⟩ = some (.int .i64 k) ∧ w1.cell? ⟨W.heap.size, 3, none⟩ = some (.int .i64 n) ∧ w1.cell? ⟨W.heap.size, 4, none⟩ = some (.slice p m c) ∧ Below w0.heap.size w0 w1) (hb : Below w1.heap.size w1 w') => MK.out w' (hS.2.2.2.2.2.trans (hb.mono hS.2.2.2.2.2.size)))
  have HBW := Lib.hid hB0
  clear hw0 hK hok r0 hB0 z1 z2 z3 ea eb et hla hlb hlt e4
  go_enter Tryz.func15, Tryz.ntmps15
  go_wp2_with fail
  rw [← HW0.out]
  generalize hX : W.heap.size = X at *
  go_region_held3 (fun w' => w'.cell? ⟨X, 0, none⟩ = some (.int .i64 a) ∧ w'.cell? ⟨X, 1, none⟩ = some (.int .i64 b) ∧ w'.cell? ⟨X, 2, none⟩ = some (.int .i64 k) ∧ w'.cell? ⟨X, 3, none⟩ = some (.int .i64 n) ∧ w'.cell? ⟨X, 4, none⟩ = some (.slice p m c) ∧ Below w0.heap.size w0 w') (first | exact MK.out _ ((Below.refl _ _).drew) | assumption | (refine KP.out _ _ ?_ hb; first | assumption | exact MK.out _ ((Below.refl _ _).drew))) (first | (go_at_call 36; (first | with_reducible refine (DA.out _).mono ?_ | with_reducible refine (DB.out _).mono ?_); rintro e w' ⟨rfl, rfl⟩) | (go_at_call 37; (with_reducible refine (TX.out _ (by go_split_ands; assumption)).mono ?_); rintro e w' ⟨rfl, hb⟩))
  rename_i hSS
  obtain ⟨_, _, _, _, _, hBB⟩ := hSS
  go_wp2_with fail
  go_ret
  rw [← hX] at *
  exact ⟨rfl, HBW.out.trans (hBB.mono HBW.out.size)⟩
end Go.Proofs.YtakhgjhnljbfiaaGreatDoor
