/- Entries: their boxes; Check and Same on both sides; cmp.Or of errors. -/
import Derived.Test.YtakhgjhnljbfiaaGreatDoorLexgd
import Derived.Test.YtakhgjhnljbfiaaGreatDoorLive23
namespace Go.Proofs.YtakhgjhnljbfiaaGreatDoor
open Go.ChangeShapes Go.WideShapes Go.ChangeAt Go.RowKit
set_option linter.unusedVariables false
set_option linter.unusedSimpArgs false
theorem str_cell {w : World} {B : Nat} {E : TypeId} {v : Value} {l : List (List UInt8)} (ho : w.ownsRow B E 1 v l.length (encS l)) {j : Nat} {p : List UInt8} (hj : l[j]? = some p) :
    ∃ g c, v = .slice (some ⟨g, 0, none⟩) l.length c ∧ w.cell? ⟨g, j, none⟩ = some (.string ⟨p.toArray⟩) := by
  have hlt : j < l.length := by
    rw [List.getElem?_eq_some_iff] at hj; exact hj.1
  rcases own_form ho with ⟨-, h, -⟩ | ⟨g, c, hv, -, -, -, -, hcell⟩
  · omega
  · obtain ⟨u, h1, h2, _⟩ := hcell j (by omega)
    rw [encS_at, hj] at h1
    exact ⟨g, c, hv, by rw [h2]; exact h1.symm⟩
def tlw : List (List UInt8) → List UInt8
  | [] => []
  | x :: r => 32 :: x ++ tlw r
def fullw : List (List UInt8) → List UInt8
  | [] => []
  | x :: r => x ++ tlw r
theorem full_splA (l : List UInt8) : ∀ cur, fullw (splA cur l) = cur ++ l := by
  induction l with
  | nil => intro cur; simp [splA, fullw, tlw]
  | cons b l ih =>
    intro cur
    unfold splA
    split
    · rename_i h
      subst h
      have h2 := ih []
      cases hs : splA [] l with
      | nil => have := splA_count l []; rw [hs] at this; simp at this
      | cons x r =>
        rw [hs] at h2
        simp only [fullw, tlw, List.nil_append] at h2 ⊢
        rw [← h2]; simp
    · rw [ih]; simp
theorem wds_full {l : List UInt8} {P : List (List UInt8)} (h : wds l = some P) : fullw P = l := by
  unfold wds at h
  split at h
  · rename_i h0; simp at h; subst h; rw [h0]; rfl
  · split at h
    · simp at h; subst h; rw [full_splA]; rfl
    · cases h
set_option maxRecDepth 100000 in
theorem c_or_e (p : Option Addr) (n c : Nat) (xs : List Int) (W : World) (hr : RowI W p n xs) :
    Calls Tryz.prog 27 #[.slice p n c] W fun e w' => e = .returned (.int .i64 (fz xs)) ∧ W = w' := by
  have HX := Lib.hid hr
  have hs := hr.small
  have FA := Lib.hid (fun k h => fz_at xs k (by rw [hr.len]; exact h))
  have FZ := Lib.hid (fz_none xs)
  generalize fz xs = z at *
  clear hr
  go_enter Tryz.func27, Tryz.ntmps27
  go_wp2_with fail
  go_loopw [8] (fun i wr => ∃ k : Nat, k ≤ n ∧ i = .int .i64 k ∧ Hid (∀ j, j < k → xs.getD j 0 = 0) ∧ W = wr) (fun i _ => n - (intOf i).toNat)
  case atStart => refine ⟨0, Nat.zero_le _, rfl, Lib.hid (fun j hj => by omega), ?_⟩; first | rfl | trivial
  case round =>
    obtain ⟨k, hk, rfl, HZ, rfl⟩ := hrel
    by_cases hlt : k < n
    · have hd : decide ((k : Int) < (n : Int)) = true := decide_eq_true (by omega)
      obtain ⟨b, off, rfl, hb, hc, x0, x1⟩ := HX.out.cell hlt
      have FA1 := Lib.hid (fun h => FA.out k hlt HZ.out h)
      have HZ2 := Lib.hid (fun (h : xs.getD k 0 = 0) j (hj : j < k + 1) => (show xs.getD j 0 = 0 by
        by_cases e : j = k
        · rw [e]; exact h
        · exact HZ.out j (by omega)))
      generalize xs.getD k 0 = x at *
      by_cases hx : x = 0
      · have HZ3 := Lib.hid (HZ2.out hx)
        subst hx
        go_wp2_with fail
        go_roundw
        case rel => exact ⟨k + 1, by omega, by go_num, HZ3, trivial⟩
        case measure => (first | (simp [intOf]; done) | (simp [intOf]; omega) | (simp only [intOf]; omega))
      · have E := Lib.hid (FA1.out hx)
        have hx0 : (x != 0) = true := by simp; omega
        go_wp2_with fail
        go_ret
        exact ⟨by rw [E.out]; rfl, rfl⟩
    · obtain rfl : k = n := by omega
      have hd : decide ((k : Int) < (k : Int)) = false := decide_eq_false (by omega)
      have E := Lib.hid (FZ.out (fun j hj => HZ.out j (by rw [HX.out.len] at hj; exact hj)))
      go_wp2_with fail
      go_ret
      exact ⟨by rw [E.out]; rfl, rfl⟩

/-- A block of five cells, laid. -/
theorem box5 (W : World) (a b k n : Int) (v : Value) (T : TypeId) : ∃ w0 : World, w0 = W.alloc (.cells #[.int .i64 a, .int .i64 b, .int .i64 k, .int .i64 n, v] T) ∧ w0.heap[W.heap.size]? = some (.cells #[.int .i64 a, .int .i64 b, .int .i64 k, .int .i64 n, v] T (0, 0)) ∧ Below W.heap.size W w0 ∧ w0.heap.size = W.heap.size + 1 :=
  ⟨_, rfl, heap_alloc_new _ _, (Below.refl _ _).alloc (Nat.le_refl _) _, by simp⟩
theorem cells5 {w : World} {g : Nat} {a b c d e : Value} {T : TypeId} (h : w.heap[g]? = some (.cells #[a, b, c, d, e] T (0, 0))) : w.cell? ⟨g, 0, none⟩ = some a ∧ w.cell? ⟨g, 1, none⟩ = some b ∧ w.cell? ⟨g, 2, none⟩ = some c ∧ w.cell? ⟨g, 3, none⟩ = some d ∧ w.cell? ⟨g, 4, none⟩ = some e :=
  ⟨by rw [cell_of_row _ _ _ _ _ _ h]; rfl, by rw [cell_of_row _ _ _ _ _ _ h]; rfl, by rw [cell_of_row _ _ _ _ _ _ h]; rfl, by rw [cell_of_row _ _ _ _ _ _ h]; rfl, by rw [cell_of_row _ _ _ _ _ _ h]; rfl⟩
theorem free5 {w : World} {g : Nat} {a b c d e : Value} {T : TypeId} (h : w.heap[g]? = some (.cells #[a, b, c, d, e] T (0, 0))) : w.frozen? ⟨g, 0, none⟩ = false ∧ w.frozen? ⟨g, 1, none⟩ = false ∧ w.frozen? ⟨g, 2, none⟩ = false ∧ w.frozen? ⟨g, 3, none⟩ = false ∧ w.frozen? ⟨g, 4, none⟩ = false :=
  ⟨frozen_of_row _ _ _ _ _ h, frozen_of_row _ _ _ _ _ h, frozen_of_row _ _ _ _ _ h, frozen_of_row _ _ _ _ _ h, frozen_of_row _ _ _ _ _ h⟩
/-- A struct of five cells stored whole. -/
def s5 (w : World) (b : Nat) (x y z u v : Value) : World := ((((w.setCell ⟨b, 0, none⟩ x).setCell ⟨b, 1, none⟩ y).setCell ⟨b, 2, none⟩ z).setCell ⟨b, 3, none⟩ u).setCell ⟨b, 4, none⟩ v
theorem s5_at {w : World} {b : Nat} {x y z u v x0 y0 z0 u0 v0 : Value} {T : TypeId} (h : w.heap[b]? = some (.cells #[x0, y0, z0, u0, v0] T (0, 0))) : (s5 w b x y z u v).heap[b]? = some (.cells #[x, y, z, u, v] T (0, 0)) := by
  unfold s5; rw [bset (bset (bset (bset (bset h _) _) _) _) _]; rfl
theorem s5_below {w : World} {b H : Nat} (x y z u v : Value) (h : H ≤ b) : Below H w (s5 w b x y z u v) := (((((Below.refl _ _).setCell h _).setCell h _).setCell h _).setCell h _).setCell h _
theorem s5_other {w : World} {b i : Nat} (x y z u v : Value) (h : i ≠ b) : (s5 w b x y z u v).heap[i]? = w.heap[i]? := by
  unfold s5; rw [heap_setCell_other _ ⟨b, 4, none⟩ i _ h, heap_setCell_other _ ⟨b, 3, none⟩ i _ h, heap_setCell_other _ ⟨b, 2, none⟩ i _ h, heap_setCell_other _ ⟨b, 1, none⟩ i _ h, heap_setCell_other _ ⟨b, 0, none⟩ i _ h]
theorem s5_size (w : World) (b : Nat) (x y z u v : Value) : (s5 w b x y z u v).heap.size = w.heap.size := by unfold s5; simp
theorem key_eq (a b c d : Int) (u : World) : (binOp .eql 23 (.agg #[.int .i64 a, .int .i64 b]) (.agg #[.int .i64 c, .int .i64 d])).run Tryz.prog u = .ok (.bool (decide (a = c ∧ b = d))) u := by
  go_simp
  by_cases h1 : a = c <;> by_cases h2 : b = d <;> simp [h1, h2]
set_option maxRecDepth 100000 in
set_option maxHeartbeats 4000000 in
theorem e_check (ks : Fo) (v : Value) (a b k n : Int) (lim : Nat) (W : World) (hN : ks.cnt ≤ 1048576) (hK : Kids W lim v ks) (hl : lim ≤ W.heap.size) (wa : -9223372036854775808 ≤ a ∧ a ≤ 9223372036854775807) (wk : -9223372036854775808 ≤ k ∧ k ≤ 9223372036854775807) (wn : -9223372036854775808 ≤ n ∧ n ≤ 9223372036854775807) (wf : ks.wf) :
    Calls Tryz.prog 11 #[.agg #[.int .i64 a, .int .i64 b, .int .i64 k, .int .i64 n, v]] W fun e w' => e = .returned (.int .i64 (fori a b n (chkd k n ks))) ∧ Below W.heap.size W w' := by
  obtain ⟨p, m, c, rfl, hc1, hc2, -⟩ := hK.shape
  obtain ⟨w0, hw0, r0, hB0, hs0⟩ := box5 W a b k n (.slice p m c) 28
  have VF := valid_for ks (.slice p m c) a b k n lim w0 hN (hK.below hl hB0) (by omega) wa wk wn wf
  obtain ⟨x0, x1, x2, x3, x4⟩ := cells5 r0
  obtain ⟨z, hz⟩ : ∃ z, fori a b n (chkd k n ks) = z := ⟨_, rfl⟩
  rw [hz] at VF ⊢
  have HW0 := Lib.hid hw0
  clear hK r0 hw0 hz
  go_enter Tryz.func11, Tryz.ntmps11
  go_wp2_with fail
  rw [← HW0.out]
  refine VF.mono ?_
  rintro e w1 ⟨rfl, hb1⟩
  go_wp2_with fail
  go_ret
  exact ⟨rfl, hB0.trans (hb1.mono hB0.size)⟩
set_option maxRecDepth 100000 in
set_option maxHeartbeats 4000000 in
theorem r24_check (ks : Fo) (v : Value) (a b k n : Int) (lim : Nat) (W : World) (hN : ks.cnt ≤ 1048576) (hK : Kids W lim v ks) (hl : lim ≤ W.heap.size) (wa : -9223372036854775808 ≤ a ∧ a ≤ 9223372036854775807) (wk : -9223372036854775808 ≤ k ∧ k ≤ 9223372036854775807) (wn : -9223372036854775808 ≤ n ∧ n ≤ 9223372036854775807) (wf : ks.wf) :
    Calls Tryz.prog 10 #[.agg #[.int .i64 a, .int .i64 b, .int .i64 k, .int .i64 n, v]] W fun e w' => e = .returned (.int .i64 (fori a b n (chkd k n ks))) ∧ Below W.heap.size W w' := by
  obtain ⟨p, m, c, rfl, hc1, hc2, -⟩ := hK.shape
  obtain ⟨w0, hw0, r0, hB0, hs0⟩ := box5 W a b k n (.slice p m c) 28
  have VF := r14_for ks (.slice p m c) a b k n lim w0 hN (hK.below hl hB0) (by omega) wa wk wn wf
  obtain ⟨x0, x1, x2, x3, x4⟩ := cells5 r0
  obtain ⟨z, hz⟩ : ∃ z, fori a b n (chkd k n ks) = z := ⟨_, rfl⟩
  rw [hz] at VF ⊢
  have HW0 := Lib.hid hw0
  clear hK r0 hw0 hz
  go_enter Tryz.func10, Tryz.ntmps10
  go_wp2_with fail
  rw [← HW0.out]
  refine VF.mono ?_
  rintro e w1 ⟨rfl, hb1⟩
  go_wp2_with fail
  go_ret
  exact ⟨rfl, hB0.trans (hb1.mono hB0.size)⟩
set_option maxRecDepth 100000 in
set_option maxHeartbeats 4000000 in
/-- Two entries of one key. -/
theorem r24_same1 (ks ks' : Fo) (v v' : Value) (a b k n k' n' : Int) (lim : Nat) (W : World) (hK : Kids W lim v ks) (hK' : Kids W lim v' ks') (hl : lim ≤ W.heap.size) :
    Calls Tryz.prog 13 #[.agg #[.int .i64 a, .int .i64 b, .int .i64 k, .int .i64 n, v], .agg #[.int .i64 a, .int .i64 b, .int .i64 k', .int .i64 n', v']] W fun e w' => e = .returned (.bool (decide (cmpN k n ks k' n' ks' = 0))) ∧ Below W.heap.size W w' := by
  obtain ⟨p, m, c, rfl, -, -, -⟩ := hK.shape
  obtain ⟨p', m', c', rfl, -, -, -⟩ := hK'.shape
  obtain ⟨w0, hw0, r0, hB0, hs0⟩ := box5 W a b k n (.slice p m c) 28
  obtain ⟨w1, hw1, r1, hB1, hs1⟩ := box5 w0 a b k' n' (.slice p' m' c') 28
  have r0 := (hB1.block _ (by omega)).trans r0
  rw [hs0] at r1
  have hB := hB0.trans (hB1.mono hB0.size)
  have HW1 := Lib.hid (show (W.alloc (.cells #[.int .i64 a, .int .i64 b, .int .i64 k, .int .i64 n, .slice p m c] 28)).alloc (.cells #[.int .i64 a, .int .i64 b, .int .i64 k', .int .i64 n', .slice p' m' c'] 28) = w1 by rw [hw1, hw0])
  have SM := r13_same ks ks' (.slice p m c) (.slice p' m' c') k n k' n' lim w1 (hK.below hl hB) (hK'.below hl hB) (by omega)
  obtain ⟨x0, x1, x2, x3, x4⟩ := cells5 r0
  obtain ⟨y0, y1, y2, y3, y4⟩ := cells5 r1
  generalize decide (cmpN k n ks k' n' ks' = 0) = z at *
  have KE := key_eq a b a b
  simp only [and_self, decide_true] at KE
  clear hK hK' r0 r1 hw0 hw1 hB0 hB1 hs0 hs1
  go_enter Tryz.func13, Tryz.ntmps13
  go_upto_region 1 with fail
  rw [HW1.out]
  go_wp2_with fail
  refine SM.mono ?_
  rintro e w2 ⟨rfl, hb2⟩
  go_wp2_with fail
  go_ret
  exact ⟨rfl, hB.trans (hb2.mono hB.size)⟩
end Go.Proofs.YtakhgjhnljbfiaaGreatDoor
