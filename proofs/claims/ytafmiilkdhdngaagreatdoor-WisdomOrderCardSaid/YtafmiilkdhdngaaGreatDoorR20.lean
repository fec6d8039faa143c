/- Put together by program (merge2.py): Enta Enb Ern Erw Erf. -/
import Derived.BigRegion
import Derived.Deep.DeepCutAuto
import Derived.Deep.AppendSrc
import Derived.Deep.Upon
import Derived.Test.YtafmiilkdhdngaaGreatDoorR7
import Derived.Test.YtafmiilkdhdngaaGreatDoorR10
import Derived.Test.YtafmiilkdhdngaaGreatDoorR12
import Derived.Test.YtafmiilkdhdngaaGreatDoorR19
/- Entries: their boxes; Check and Same on both sides; cmp.Or of errors. -/
namespace Go.Proofs.YtafmiilkdhdngaaGreatDoor
open Go.ChangeShapes Go.WideShapes Go.ChangeAt Go.RowKit
set_option linter.unusedVariables false
set_option linter.unusedSimpArgs false
theorem str_cell {w : World} {B : Nat} {E : TypeId} {v : Value} {l : List (List UInt8)} (ho : w.ownsRow B E 1 v l.length (encS l)) {j : Nat} {p : List UInt8} (hj : l[j]? = some p) :
    ∃ g c, v = .slice (some ⟨g, 0, none⟩) l.length c ∧ w.cell? ⟨g, j, none⟩ = some (.string ⟨p.toArray⟩) := by
  have hlt : j < l.length := by
    rw [List.getElem?_eq_some_iff] at hj; exact hj.1
  rcases own_form ho with ⟨-, h, -⟩ | ⟨g, c, hv, -, -, -, -, hcell⟩
  · omega
  · obtain ⟨u, h1, h2, _⟩ := hcell j (by omega)
    rw [encS_at, hj] at h1
    exact ⟨g, c, hv, by rw [h2]; exact h1.symm⟩
def tlw : List (List UInt8) → List UInt8
  | [] => []
  | x :: r => 32 :: x ++ tlw r
def fullw : List (List UInt8) → List UInt8
  | [] => []
  | x :: r => x ++ tlw r
theorem full_splA (l : List UInt8) : ∀ cur, fullw (splA cur l) = cur ++ l := by
  induction l with
  | nil => intro cur; simp [splA, fullw, tlw]
  | cons b l ih =>
    intro cur
    unfold splA
    split
    · rename_i h
      subst h
      have h2 := ih []
      cases hs : splA [] l with
      | nil => have := splA_count l []; rw [hs] at this; simp at this
      | cons x r =>
        rw [hs] at h2
        simp only [fullw, tlw, List.nil_append] at h2 ⊢
        rw [← h2]; simp
    · rw [ih]; simp
theorem wds_full {l : List UInt8} {P : List (List UInt8)} (h : wds l = some P) : fullw P = l := by
  unfold wds at h
  split at h
  · rename_i h0; simp at h; subst h; rw [h0]; rfl
  · split at h
    · simp at h; subst h; rw [full_splA]; rfl
    · cases h
set_option maxRecDepth 100000 in
theorem c_or_e (p : Option Addr) (n c : Nat) (xs : List Int) (W : World) (hr : RowI W p n xs) :
    Calls Tryz.prog 40 #[.slice p n c] W fun e w' => e = .returned (.int .i64 (fz xs)) ∧ W = w' := by
  have HX := Lib.hid hr
  have hs := hr.small
  have FA := Lib.hid (fun k h => fz_at xs k (by rw [hr.len]; exact h))
  have FZ := Lib.hid (fz_none xs)
  generalize fz xs = z at *
  clear hr
  go_enter Tryz.func40, Tryz.ntmps40
  go_wp2_with fail
  go_loopw [8] (fun i wr => ∃ k : Nat, k ≤ n ∧ i = .int .i64 k ∧ Hid (∀ j, j < k → xs.getD j 0 = 0) ∧ W = wr) (fun i _ => n - (intOf i).toNat)
  case atStart => refine ⟨0, Nat.zero_le _, rfl, Lib.hid (fun j hj => by omega), ?_⟩; first | rfl | trivial
  case round =>
    obtain ⟨k, hk, rfl, HZ, rfl⟩ := hrel
    by_cases hlt : k < n
    · have hd : decide ((k : Int) < (n : Int)) = true := decide_eq_true (by omega)
      obtain ⟨b, off, rfl, hb, hc, x0, x1⟩ := HX.out.cell hlt
      have FA1 := Lib.hid (fun h => FA.out k hlt HZ.out h)
      have HZ2 := Lib.hid (fun (h : xs.getD k 0 = 0) j (hj : j < k + 1) => (show xs.getD j 0 = 0 by
        by_cases e : j = k
        · rw [e]; exact h
        · exact HZ.out j (by omega)))
      generalize xs.getD k 0 = x at *
      by_cases hx : x = 0
      · have HZ3 := Lib.hid (HZ2.out hx)
        subst hx
        go_wp2_with fail
        go_roundw
        case rel => exact ⟨k + 1, by omega, by go_num, HZ3, trivial⟩
        case measure => (first | (simp [intOf]; done) | (simp [intOf]; omega) | (simp only [intOf]; omega))
      · have E := Lib.hid (FA1.out hx)
        have hx0 : (x != 0) = true := by simp; omega
        go_wp2_with fail
        go_ret
        exact ⟨by rw [E.out]; rfl, rfl⟩
    · obtain rfl : k = n := by omega
      have hd : decide ((k : Int) < (k : Int)) = false := decide_eq_false (by omega)
      have E := Lib.hid (FZ.out (fun j hj => HZ.out j (by rw [HX.out.len] at hj; exact hj)))
      go_wp2_with fail
      go_ret
      exact ⟨by rw [E.out]; rfl, rfl⟩

/-- A block of five cells, laid. -/
theorem box5 (W : World) (a b k n : Int) (v : Value) (T : TypeId) : ∃ w0 : World, w0 = W.alloc (.cells #[.int .i64 a, .int .i64 b, .int .i64 k, .int .i64 n, v] T) ∧ w0.heap[W.heap.size]? = some (.cells #[.int .i64 a, .int .i64 b, .int .i64 k, .int .i64 n, v] T (0, 0)) ∧ Below W.heap.size W w0 ∧ w0.heap.size = W.heap.size + 1 :=
  ⟨_, rfl, heap_alloc_new _ _, (Below.refl _ _).alloc (Nat.le_refl _) _, by simp⟩
theorem cells5 {w : World} {g : Nat} {a b c d e : Value} {T : TypeId} (h : w.heap[g]? = some (.cells #[a, b, c, d, e] T (0, 0))) : w.cell? ⟨g, 0, none⟩ = some a ∧ w.cell? ⟨g, 1, none⟩ = some b ∧ w.cell? ⟨g, 2, none⟩ = some c ∧ w.cell? ⟨g, 3, none⟩ = some d ∧ w.cell? ⟨g, 4, none⟩ = some e :=
  ⟨by rw [cell_of_row _ _ _ _ _ _ h]; rfl, by rw [cell_of_row _ _ _ _ _ _ h]; rfl, by rw [cell_of_row _ _ _ _ _ _ h]; rfl, by rw [cell_of_row _ _ _ _ _ _ h]; rfl, by rw [cell_of_row _ _ _ _ _ _ h]; rfl⟩
theorem free5 {w : World} {g : Nat} {a b c d e : Value} {T : TypeId} (h : w.heap[g]? = some (.cells #[a, b, c, d, e] T (0, 0))) : w.frozen? ⟨g, 0, none⟩ = false ∧ w.frozen? ⟨g, 1, none⟩ = false ∧ w.frozen? ⟨g, 2, none⟩ = false ∧ w.frozen? ⟨g, 3, none⟩ = false ∧ w.frozen? ⟨g, 4, none⟩ = false :=
  ⟨frozen_of_row _ _ _ _ _ h, frozen_of_row _ _ _ _ _ h, frozen_of_row _ _ _ _ _ h, frozen_of_row _ _ _ _ _ h, frozen_of_row _ _ _ _ _ h⟩
/-- A struct of five cells stored whole. -/
def s5 (w : World) (b : Nat) (x y z u v : Value) : World := ((((w.setCell ⟨b, 0, none⟩ x).setCell ⟨b, 1, none⟩ y).setCell ⟨b, 2, none⟩ z).setCell ⟨b, 3, none⟩ u).setCell ⟨b, 4, none⟩ v
theorem s5_at {w : World} {b : Nat} {x y z u v x0 y0 z0 u0 v0 : Value} {T : TypeId} (h : w.heap[b]? = some (.cells #[x0, y0, z0, u0, v0] T (0, 0))) : (s5 w b x y z u v).heap[b]? = some (.cells #[x, y, z, u, v] T (0, 0)) := by
  unfold s5; rw [bset (bset (bset (bset (bset h _) _) _) _) _]; rfl
theorem s5_below {w : World} {b H : Nat} (x y z u v : Value) (h : H ≤ b) : Below H w (s5 w b x y z u v) := (((((Below.refl _ _).setCell h _).setCell h _).setCell h _).setCell h _).setCell h _
theorem s5_other {w : World} {b i : Nat} (x y z u v : Value) (h : i ≠ b) : (s5 w b x y z u v).heap[i]? = w.heap[i]? := by
  unfold s5; rw [heap_setCell_other _ ⟨b, 4, none⟩ i _ h, heap_setCell_other _ ⟨b, 3, none⟩ i _ h, heap_setCell_other _ ⟨b, 2, none⟩ i _ h, heap_setCell_other _ ⟨b, 1, none⟩ i _ h, heap_setCell_other _ ⟨b, 0, none⟩ i _ h]
theorem s5_size (w : World) (b : Nat) (x y z u v : Value) : (s5 w b x y z u v).heap.size = w.heap.size := by unfold s5; simp
theorem key_eq (a b c d : Int) (u : World) : (binOp .eql 39 (.agg #[.int .i64 a, .int .i64 b]) (.agg #[.int .i64 c, .int .i64 d])).run Tryz.prog u = .ok (.bool (decide (a = c ∧ b = d))) u := by
  go_simp
  by_cases h1 : a = c <;> by_cases h2 : b = d <;> simp [h1, h2]
set_option maxRecDepth 100000 in
set_option maxHeartbeats 4000000 in
theorem e_check (ks : Fo) (v : Value) (a b k n : Int) (lim : Nat) (W : World) (hN : ks.cnt ≤ 1048576) (hK : Kids W lim v ks) (hl : lim ≤ W.heap.size) (wa : -9223372036854775808 ≤ a ∧ a ≤ 9223372036854775807) (wk : -9223372036854775808 ≤ k ∧ k ≤ 9223372036854775807) (wn : -9223372036854775808 ≤ n ∧ n ≤ 9223372036854775807) (wf : ks.wf) :
    Calls Tryz.prog 17 #[.agg #[.int .i64 a, .int .i64 b, .int .i64 k, .int .i64 n, v]] W fun e w' => e = .returned (.int .i64 (fori a b n (chkd k n ks))) ∧ Below W.heap.size W w' := by
  obtain ⟨p, m, c, rfl, hc1, hc2, -⟩ := hK.shape
  obtain ⟨w0, hw0, r0, hB0, hs0⟩ := box5 W a b k n (.slice p m c) 44
  have VF := valid_for ks (.slice p m c) a b k n lim w0 hN (hK.below hl hB0) (by omega) wa wk wn wf
  obtain ⟨x0, x1, x2, x3, x4⟩ := cells5 r0
  obtain ⟨z, hz⟩ : ∃ z, fori a b n (chkd k n ks) = z := ⟨_, rfl⟩
  rw [hz] at VF ⊢
  have HW0 := Lib.hid hw0
  clear hK r0 hw0 hz
  go_enter Tryz.func17, Tryz.ntmps17
  go_wp2_with fail
  rw [← HW0.out]
  refine VF.mono ?_
  rintro e w1 ⟨rfl, hb1⟩
  go_wp2_with fail
  go_ret
  exact ⟨rfl, hB0.trans (hb1.mono hB0.size)⟩
set_option maxRecDepth 100000 in
set_option maxHeartbeats 4000000 in
theorem r24_check (ks : Fo) (v : Value) (a b k n : Int) (lim : Nat) (W : World) (hN : ks.cnt ≤ 1048576) (hK : Kids W lim v ks) (hl : lim ≤ W.heap.size) (wa : -9223372036854775808 ≤ a ∧ a ≤ 9223372036854775807) (wk : -9223372036854775808 ≤ k ∧ k ≤ 9223372036854775807) (wn : -9223372036854775808 ≤ n ∧ n ≤ 9223372036854775807) (wf : ks.wf) :
    Calls Tryz.prog 23 #[.agg #[.int .i64 a, .int .i64 b, .int .i64 k, .int .i64 n, v]] W fun e w' => e = .returned (.int .i64 (fori a b n (chkd k n ks))) ∧ Below W.heap.size W w' := by
  obtain ⟨p, m, c, rfl, hc1, hc2, -⟩ := hK.shape
  obtain ⟨w0, hw0, r0, hB0, hs0⟩ := box5 W a b k n (.slice p m c) 44
  have VF := r14_for ks (.slice p m c) a b k n lim w0 hN (hK.below hl hB0) (by omega) wa wk wn wf
  obtain ⟨x0, x1, x2, x3, x4⟩ := cells5 r0
  obtain ⟨z, hz⟩ : ∃ z, fori a b n (chkd k n ks) = z := ⟨_, rfl⟩
  rw [hz] at VF ⊢
  have HW0 := Lib.hid hw0
  clear hK r0 hw0 hz
  go_enter Tryz.func23, Tryz.ntmps23
  go_wp2_with fail
  rw [← HW0.out]
  refine VF.mono ?_
  rintro e w1 ⟨rfl, hb1⟩
  go_wp2_with fail
  go_ret
  exact ⟨rfl, hB0.trans (hb1.mono hB0.size)⟩
set_option maxRecDepth 100000 in
set_option maxHeartbeats 4000000 in
/-- Two entries of one key. -/
theorem r24_same1 (ks ks' : Fo) (v v' : Value) (a b k n k' n' : Int) (lim : Nat) (W : World) (hK : Kids W lim v ks) (hK' : Kids W lim v' ks') (hl : lim ≤ W.heap.size) :
    Calls Tryz.prog 29 #[.agg #[.int .i64 a, .int .i64 b, .int .i64 k, .int .i64 n, v], .agg #[.int .i64 a, .int .i64 b, .int .i64 k', .int .i64 n', v']] W fun e w' => e = .returned (.bool (decide (cmpN k n ks k' n' ks' = 0))) ∧ Below W.heap.size W w' := by
  obtain ⟨p, m, c, rfl, -, -, -⟩ := hK.shape
  obtain ⟨p', m', c', rfl, -, -, -⟩ := hK'.shape
  obtain ⟨w0, hw0, r0, hB0, hs0⟩ := box5 W a b k n (.slice p m c) 44
  obtain ⟨w1, hw1, r1, hB1, hs1⟩ := box5 w0 a b k' n' (.slice p' m' c') 44
  have r0 := (hB1.block _ (by omega)).trans r0
  rw [hs0] at r1
  have hB := hB0.trans (hB1.mono hB0.size)
  have HW1 := Lib.hid (show (W.alloc (.cells #[.int .i64 a, .int .i64 b, .int .i64 k, .int .i64 n, .slice p m c] 44)).alloc (.cells #[.int .i64 a, .int .i64 b, .int .i64 k', .int .i64 n', .slice p' m' c'] 44) = w1 by rw [hw1, hw0])
  have SM := r13_same ks ks' (.slice p m c) (.slice p' m' c') k n k' n' lim w1 (hK.below hl hB) (hK'.below hl hB) (by omega)
  obtain ⟨x0, x1, x2, x3, x4⟩ := cells5 r0
  obtain ⟨y0, y1, y2, y3, y4⟩ := cells5 r1
  generalize decide (cmpN k n ks k' n' ks' = 0) = z at *
  have KE := key_eq a b a b
  simp only [and_self, decide_true] at KE
  clear hK hK' r0 r1 hw0 hw1 hB0 hB1 hs0 hs1
  go_enter Tryz.func29, Tryz.ntmps29
  go_upto_region 1 with fail
  rw [HW1.out]
  go_wp2_with fail
  refine SM.mono ?_
  rintro e w2 ⟨rfl, hb2⟩
  go_wp2_with fail
  go_ret
  exact ⟨rfl, hB.trans (hb2.mono hB.size)⟩
end Go.Proofs.YtafmiilkdhdngaaGreatDoor
/- Here entries are printed: the boxes and Check are in Enta. -/
namespace Go.Proofs.YtafmiilkdhdngaaGreatDoor
open Go.ChangeShapes Go.WideShapes Go.ChangeAt Go.RowKit
set_option linter.unusedVariables false
set_option linter.unusedSimpArgs false
set_option maxRecDepth 100000 in
set_option maxHeartbeats 4000000 in
theorem r24_same (ks ks' : Fo) (v v' : Value) (a b k n a' b' k' n' : Int) (lim : Nat) (W : World) (hK : Kids W lim v ks) (hK' : Kids W lim v' ks') (hl : lim ≤ W.heap.size) :
    Calls Tryz.prog 29 #[.agg #[.int .i64 a, .int .i64 b, .int .i64 k, .int .i64 n, v], .agg #[.int .i64 a', .int .i64 b', .int .i64 k', .int .i64 n', v']] W fun e w' => e = .returned (.bool (decide ((a = a' ∧ b = b') ∧ cmpN k n ks k' n' ks' = 0))) ∧ Below W.heap.size W w' := by
  by_cases hk : a = a' ∧ b = b'
  · obtain ⟨rfl, rfl⟩ := hk
    rw [show decide ((a = a ∧ b = b) ∧ cmpN k n ks k' n' ks' = 0) = decide (cmpN k n ks k' n' ks' = 0) by simp]
    exact r24_same1 ks ks' v v' a b k n k' n' lim W hK hK' hl
  obtain ⟨p, m, c, rfl, -, -, -⟩ := hK.shape
  obtain ⟨p', m', c', rfl, -, -, -⟩ := hK'.shape
  obtain ⟨w0, hw0, r0, hB0, hs0⟩ := box5 W a b k n (.slice p m c) 44
  obtain ⟨w1, hw1, r1, hB1, hs1⟩ := box5 w0 a' b' k' n' (.slice p' m' c') 44
  have r0 := (hB1.block _ (by omega)).trans r0
  rw [hs0] at r1
  have hB := hB0.trans (hB1.mono hB0.size)
  have HW1 := Lib.hid (show (W.alloc (.cells #[.int .i64 a, .int .i64 b, .int .i64 k, .int .i64 n, .slice p m c] 44)).alloc (.cells #[.int .i64 a', .int .i64 b', .int .i64 k', .int .i64 n', .slice p' m' c'] 44) = w1 by rw [hw1, hw0])
  obtain ⟨x0, x1, x2, x3, x4⟩ := cells5 r0
  obtain ⟨y0, y1, y2, y3, y4⟩ := cells5 r1
  rw [decide_eq_false (show ¬ ((a = a' ∧ b = b') ∧ cmpN k n ks k' n' ks' = 0) from fun h => hk h.1)]
  have KE := key_eq a b a' b'
  rw [decide_eq_false hk] at KE
  clear hK hK' r0 r1 hw0 hw1 hB0 hB1 hs0 hs1 hk
  go_enter Tryz.func29, Tryz.ntmps29
  go_upto_region 1 with fail
  rw [HW1.out]
  go_wp2_with fail
  go_ret
  exact ⟨rfl, hB⟩
end Go.Proofs.YtafmiilkdhdngaaGreatDoor
/- Rows of entries, in numbers and in memory. -/
namespace Go.Proofs.YtafmiilkdhdngaaGreatDoor
open Go.ChangeShapes Go.WideShapes Go.ChangeAt Go.RowKit
set_option linter.unusedVariables false
set_option linter.unusedSimpArgs false
/-- An entry in numbers. -/
structure En where
  a : Int
  b : Int
  k : Int
  n : Int
  ks : Fo
def ent (x y : En) : Bool := Srt.klt (x.a, x.b) (y.a, y.b)
theorem ent_ord : Srt.SOrd ent := Srt.klt_ord (fun x : En => (x.a, x.b))
def sortN (l : List En) : List En := Srt.isort ent l
theorem sortN_len (l : List En) : (sortN l).length = l.length := Srt.isort_len l
theorem mem_sortN {l : List En} {e : En} (h : e ∈ sortN l) : e ∈ l := Srt.mem_isort h
/-- In words' range, and no tree too great. -/
def En.wf (e : En) : Prop := (-9223372036854775808 ≤ e.a ∧ e.a ≤ 9223372036854775807) ∧ (-9223372036854775808 ≤ e.b ∧ e.b ≤ 9223372036854775807) ∧ (-9223372036854775808 ≤ e.k ∧ e.k ≤ 9223372036854775807) ∧ (-9223372036854775808 ≤ e.n ∧ e.n ≤ 9223372036854775807) ∧ e.ks.wf ∧ e.ks.cnt + 1 ≤ 1048576
/-- An entry's cells in memory. -/
def EnAt (w : World) (lim b o : Nat) (e : En) : Prop := b < lim ∧ ∃ s, w.cell? ⟨b, o, none⟩ = some (.int .i64 e.a) ∧ w.cell? ⟨b, o + 1, none⟩ = some (.int .i64 e.b) ∧ w.cell? ⟨b, o + 2, none⟩ = some (.int .i64 e.k) ∧ w.cell? ⟨b, o + 3, none⟩ = some (.int .i64 e.n) ∧ w.cell? ⟨b, o + 4, none⟩ = some s ∧ Kids w lim s e.ks
theorem EnAt.carry {w w' : World} {lim b o : Nat} {e : En} (h : EnAt w lim b o e) (hB : Below lim w w') : EnAt w' lim b o e := by
  obtain ⟨hb, s, c0, c1, c2, c3, c4, hk⟩ := h
  exact ⟨hb, s, (hB.cell (p := ⟨b, o, none⟩) hb).trans c0, (hB.cell (p := ⟨b, o + 1, none⟩) hb).trans c1, (hB.cell (p := ⟨b, o + 2, none⟩) hb).trans c2, (hB.cell (p := ⟨b, o + 3, none⟩) hb).trans c3, (hB.cell (p := ⟨b, o + 4, none⟩) hb).trans c4, hk.carry hB⟩
theorem EnAt.mono {w : World} {lim lim' b o : Nat} {e : En} (h : EnAt w lim b o e) (hl : lim ≤ lim') : EnAt w lim' b o e := by
  obtain ⟨hb, s, c0, c1, c2, c3, c4, hk⟩ := h
  exact ⟨by omega, s, c0, c1, c2, c3, c4, hk.mono hl⟩
/-- A row of entries in memory. -/
def RowN (w : World) (lim : Nat) (v : Value) (l : List En) : Prop := ∃ p c, v = .slice p l.length c ∧ l.length ≤ c ∧ c ≤ maxLen ∧ ∀ i e, l[i]? = some e → ∃ b o, p = some ⟨b, o, none⟩ ∧ EnAt w lim b (o + i * 5) e
theorem RowN.carry {w w' : World} {lim : Nat} {v : Value} {l : List En} (h : RowN w lim v l) (hB : Below lim w w') : RowN w' lim v l := by
  obtain ⟨p, c, rfl, h1, h2, h3⟩ := h
  exact ⟨p, c, rfl, h1, h2, fun i e he => by obtain ⟨b, o, hp, ha⟩ := h3 i e he; exact ⟨b, o, hp, ha.carry hB⟩⟩
theorem RowN.mono {w : World} {lim lim' : Nat} {v : Value} {l : List En} (h : RowN w lim v l) (hl : lim ≤ lim') : RowN w lim' v l := by
  obtain ⟨p, c, rfl, h1, h2, h3⟩ := h
  exact ⟨p, c, rfl, h1, h2, fun i e he => by obtain ⟨b, o, hp, ha⟩ := h3 i e he; exact ⟨b, o, hp, ha.mono hl⟩⟩
theorem RowN.below {w w' : World} {lim : Nat} {v : Value} {l : List En} (h : RowN w lim v l) (hl : lim ≤ w.heap.size) (hB : Below w.heap.size w w') : RowN w' lim v l := h.carry (hB.mono hl)
theorem RowN.nought (w : World) (lim : Nat) : RowN w lim (.slice none 0 0) [] := ⟨none, 0, rfl, Nat.le_refl _, by unfold maxLen; omega, fun i e h => by simp at h⟩
theorem RowN.form {w : World} {lim : Nat} {v : Value} {l : List En} (h : RowN w lim v l) : ∃ p c, v = .slice p l.length c ∧ l.length ≤ c ∧ c ≤ maxLen := by
  obtain ⟨p, c, rfl, h1, h2, _⟩ := h; exact ⟨p, c, rfl, h1, h2⟩
theorem RowN.get {w : World} {lim : Nat} {p : Option Addr} {m c : Nat} {l : List En} (h : RowN w lim (.slice p m c) l) {i : Nat} {e : En} (he : l[i]? = some e) : ∃ b o, p = some ⟨b, o, none⟩ ∧ EnAt w lim b (o + i * 5) e := by
  obtain ⟨p', c', hv, h1, h2, h3⟩ := h
  cases hv
  exact h3 i e he
/-- With the value of its kids. -/
structure P6 where
  a : Int
  b : Int
  k : Int
  n : Int
  v : Value
  ks : Fo
def P6.e (p : P6) : E5 := ⟨p.a, p.b, p.k, p.n, p.v⟩
def P6.x (p : P6) : En := ⟨p.a, p.b, p.k, p.n, p.ks⟩
def plt (x y : P6) : Bool := Srt.klt (x.a, x.b) (y.a, y.b)
theorem ins_map {α β : Type} {lt : β → β → Bool} (f : α → β) (x : α) : ∀ l : List α, Srt.ins lt (f x) (l.map f) = (Srt.ins (fun x y => lt (f x) (f y)) x l).map f
  | [] => rfl
  | y :: l => by
    rw [List.map_cons, Srt.ins, Srt.ins]
    split
    · rfl
    · rw [ins_map f x l]; rfl
theorem fold_map {α β : Type} {lt : β → β → Bool} (f : α → β) (l : List α) : ∀ o : List α, (l.map f).foldl (fun o x => Srt.ins lt x o) (o.map f) = (l.foldl (fun o x => Srt.ins (fun x y => lt (f x) (f y)) x o) o).map f := by
  induction l with
  | nil => intro o; rfl
  | cons x l ih =>
    intro o
    rw [List.map_cons, List.foldl_cons, List.foldl_cons, ins_map, ih]
theorem isort_map {α β : Type} {lt : β → β → Bool} (f : α → β) (l : List α) : Srt.isort lt (l.map f) = (Srt.isort (fun x y => lt (f x) (f y)) l).map f := fold_map f l []
theorem sort_e (ps : List P6) : sortE (ps.map P6.e) = (Srt.isort plt ps).map P6.e := isort_map P6.e ps
theorem sort_x (ps : List P6) : sortN (ps.map P6.x) = (Srt.isort plt ps).map P6.x := isort_map P6.x ps
def z5 : E5 := ⟨0, 0, 0, 0, .slice none 0 0⟩
theorem made5 (n : Nat) : madeCells #[.int .i64 0, .int .i64 0, .int .i64 0, .int .i64 0, .slice none 0 0] (n * 5) = (cL (List.replicate n z5)).toArray := by
  apply Array.ext'
  apply List.ext_getElem?
  intro i
  by_cases hi : i < n * 5
  · have hq : (List.replicate n z5)[i / 5]? = some z5 := by rw [List.getElem?_replicate]; simp; omega
    obtain ⟨c0, c1, c2, c3, c4⟩ := cL_at hq
    unfold madeCells
    have hd : i / 5 * 5 + i % 5 = i := by omega
    rcases (by omega : i % 5 = 0 ∨ i % 5 = 1 ∨ i % 5 = 2 ∨ i % 5 = 3 ∨ i % 5 = 4) with h | h | h | h | h
    · rw [show i / 5 * 5 = i by omega] at c0; show _ = (cL (List.replicate n z5))[i]?; rw [c0]; simp [hi, h, z5]
    · rw [show i / 5 * 5 + 1 = i by omega] at c1; show _ = (cL (List.replicate n z5))[i]?; rw [c1]; simp [hi, h, z5]
    · rw [show i / 5 * 5 + 2 = i by omega] at c2; show _ = (cL (List.replicate n z5))[i]?; rw [c2]; simp [hi, h, z5]
    · rw [show i / 5 * 5 + 3 = i by omega] at c3; show _ = (cL (List.replicate n z5))[i]?; rw [c3]; simp [hi, h, z5]
    · rw [show i / 5 * 5 + 4 = i by omega] at c4; show _ = (cL (List.replicate n z5))[i]?; rw [c4]; simp [hi, h, z5]
  · rw [List.getElem?_eq_none (by rw [Array.length_toList, size_madeCells]; omega), List.getElem?_eq_none (by simp [cL_len]; omega)]
theorem make_ens (w : World) (C : Nat) (hC : C ≤ 1048576) : ∃ w', (Instr.makeSlice 22 (.int .i64 C) (.int .i64 C)).run Tryz.prog w = .ok (.slice (some ⟨w.heap.size, 0, none⟩) C C) w' ∧ Below w.heap.size w w' ∧ w'.heap.size = w.heap.size + 1 ∧ RowE w' w.heap.size 44 (List.replicate C z5) := by
  obtain ⟨i, hi, hz, hs, hb⟩ := info_parts (show (Tryz.prog.info? 44).map (fun i => (i.zero, i.size, i.bytes)) = some (some (.agg #[.int .i64 0, .int .i64 0, .int .i64 0, .int .i64 0, .slice none 0 0]), 5, 56) by kernel_rfl)
  have hr := run_make w 22 44 i _ Tryz.underlying22 hi hz .i64 .i64 (C : Int) (C : Int) (by omega) (by omega) (by rw [hb]; omega) (by omega)
  rw [hs] at hr
  have hn := heap_alloc_new w (.cells (madeCells (Value.cells (.agg #[.int .i64 0, .int .i64 0, .int .i64 0, .int .i64 0, .slice none 0 0])) ((C : Int).toNat * 5)) 44)
  refine ⟨_, hr, (Below.refl _ _).alloc (Nat.le_refl _) _, World.size_alloc _ _, ?_⟩
  unfold RowE
  rw [hn]
  exact congrArg (fun x => some (Obj.cells x 44 (0, 0))) (made5 C)
/-- One done: an element that was cloned. -/
def ClP (w : World) (g : Nat) (p : P6) : Prop := ∃ F q, p.v = kidv F 0 p.ks.len ∧ Cloned w F p.ks q ∧ g < F ∧ p.ks.cnt ≤ 1048576
theorem ClP.but {w w' : World} {g : Nat} {p : P6} (h : ClP w g p) (hb : But w w' g) : ClP w' g p := by
  obtain ⟨F, q, hv, hC, hg, hc⟩ := h
  exact ⟨F, q, hv, hC.below (hb.heap hC.blk (by omega)) hb.z, hg, hc⟩
theorem ClP.below {w w' : World} {g : Nat} {p : P6} (h : ClP w g p) (hb : Below w.heap.size w w') : ClP w' g p := h.but (But.of_below g hb)
theorem ClP.kids {w : World} {g : Nat} {p : P6} (h : ClP w g p) : Kids w w.heap.size p.v p.ks := by
  obtain ⟨F, q, hv, hC, hg, hc⟩ := h
  rw [hv]
  exact hC.kids hC.blk hc
theorem ClP.form {w : World} {g : Nat} {p : P6} (h : ClP w g p) : ∃ a n c, p.v = .slice a n c := by
  obtain ⟨F, q, hv, hC, hg, hc⟩ := h
  obtain ⟨a, c, e⟩ := kidv_form F 0 p.ks.len
  exact ⟨a, _, c, by rw [hv, e]⟩
/-- What is copied so far. -/
structure Cpy (w : World) (g : Nat) (T : TypeId) (l : List En) (i : Nat) : Prop where
  ex : ∃ ps : List P6, ps.map P6.x = l.take i ∧ RowE w g T (ps.map P6.e ++ List.replicate (l.length - i) z5) ∧ ∀ p ∈ ps, ClP w g p
theorem Cpy.start {w : World} {g : Nat} {T : TypeId} {l : List En} (h : RowE w g T (List.replicate l.length z5)) : Cpy w g T l 0 := ⟨[], by simp, by simpa using h, fun p hp => by cases hp⟩
theorem Cpy.below {w w' : World} {g : Nat} {T : TypeId} {l : List En} {i : Nat} (h : Cpy w g T l i) (hb : Below w.heap.size w w') : Cpy w' g T l i := by
  obtain ⟨ps, h1, h2, h3⟩ := h.ex
  exact ⟨ps, h1, h2.below hb, fun p hp => (h3 p hp).below hb⟩
theorem Cpy.lt {w : World} {g : Nat} {T : TypeId} {l : List En} {i : Nat} (h : Cpy w g T l i) : g < w.heap.size := by
  obtain ⟨ps, h1, h2, h3⟩ := h.ex
  exact h2.lt
theorem Cpy.old {w : World} {g : Nat} {T : TypeId} {l : List En} {i : Nat} (h : Cpy w g T l i) (hi : i < l.length) : w.cell? ⟨g, i * 5, none⟩ = some (.int .i64 0) ∧ w.cell? ⟨g, i * 5 + 1, none⟩ = some (.int .i64 0) ∧ w.cell? ⟨g, i * 5 + 2, none⟩ = some (.int .i64 0) ∧ w.cell? ⟨g, i * 5 + 3, none⟩ = some (.int .i64 0) ∧ w.cell? ⟨g, i * 5 + 4, none⟩ = some (.slice none 0 0) ∧ ∀ o, w.frozen? ⟨g, o, none⟩ = false := by
  obtain ⟨ps, h1, h2, h3⟩ := h.ex
  have hl : ps.length = i := by have := congrArg List.length h1; rw [List.length_map, List.length_take] at this; omega
  have := h2.cells (i := i) (e := z5) (by rw [List.getElem?_append_right (by rw [List.length_map]; omega), List.getElem?_replicate, List.length_map, if_pos (by omega)])
  exact ⟨this.1, this.2.1, this.2.2.1, this.2.2.2.1, this.2.2.2.2, h2.free⟩
theorem Cpy.step {w : World} {g : Nat} {T : TypeId} {l : List En} {i F : Nat} {q : List Nd} {e : En} (h : Cpy w g T l i) (he : l[i]? = some e) (hC : Cloned w F e.ks q) (hF : g < F) (hc : e.ks.cnt ≤ 1048576) : Cpy (s5o w g (i * 5) ⟨e.a, e.b, e.k, e.n, kidv F 0 e.ks.len⟩) g T l (i + 1) := by
  obtain ⟨ps, h1, h2, h3⟩ := h.ex
  have hil := (List.getElem?_eq_some_iff.1 he).1
  have hl : ps.length = i := by have := congrArg List.length h1; rw [List.length_map, List.length_take] at this; omega
  have hb := s5o_but w g (i * 5) ⟨e.a, e.b, e.k, e.n, kidv F 0 e.ks.len⟩
  refine ⟨ps ++ [⟨e.a, e.b, e.k, e.n, kidv F 0 e.ks.len, e.ks⟩], ?_, ?_, ?_⟩
  · rw [List.map_append, h1, List.take_add_one, he]; rfl
  · have := h2.set i ⟨e.a, e.b, e.k, e.n, kidv F 0 e.ks.len⟩
    rw [List.set_append_right _ _ (by rw [List.length_map]; omega), List.length_map, hl, Nat.sub_self, show l.length - i = (l.length - (i + 1)) + 1 by omega, List.replicate_succ, List.set_cons_zero] at this
    rw [List.map_append, List.append_assoc]
    exact this
  · intro p hp
    rcases List.mem_append.1 hp with hp | hp
    · exact (h3 p hp).but hb
    · rw [List.mem_singleton] at hp
      subst hp
      exact ⟨F, q, rfl, hC.below (hb.heap hC.blk (by omega)) hb.z, hF, hc⟩
theorem Cpy.done {w : World} {g : Nat} {T : TypeId} {l : List En} (h : Cpy w g T l l.length) : ∃ ps : List P6, ps.map P6.x = l ∧ RowE w g T (ps.map P6.e) ∧ ∀ p ∈ ps, ClP w g p := by
  obtain ⟨ps, h1, h2, h3⟩ := h.ex
  exact ⟨ps, by rw [h1, List.take_length], by simpa using h2, h3⟩
end Go.Proofs.YtafmiilkdhdngaaGreatDoor
/- Own rows of entries that grow by append. -/
namespace Go.Proofs.YtafmiilkdhdngaaGreatDoor
open Go.ChangeShapes Go.WideShapes Go.ChangeAt Go.RowKit
set_option linter.unusedVariables false
set_option linter.unusedSimpArgs false
/-- Cells that hold these entries, five to each; kids below lim. -/
def ECells (w : World) (lim : Nat) : List Value → List En → Prop
  | xs, [] => xs = []
  | xs, e :: l => ∃ s ys, xs = .int .i64 e.a :: .int .i64 e.b :: .int .i64 e.k :: .int .i64 e.n :: s :: ys ∧ Kids w lim s e.ks ∧ ECells w lim ys l
theorem ECells.len : ∀ {w : World} {lim : Nat} {xs : List Value} {l : List En}, ECells w lim xs l → xs.length = l.length * 5
  | _, _, _, [], h => by rw [show _ = [] from h]; rfl
  | _, _, _, d :: l, ⟨v, ys, e, _, h⟩ => by rw [e]; simp [ECells.len h]; omega
theorem ECells.append : ∀ {w : World} {lim : Nat} {xs ys : List Value} {l m : List En}, ECells w lim xs l → ECells w lim ys m → ECells w lim (xs ++ ys) (l ++ m)
  | _, _, _, _, [], _, h, h2 => by rw [show _ = [] from h]; exact h2
  | _, _, _, _, d :: l, m, ⟨v, zs, e, hk, h⟩, h2 => by rw [e]; exact ⟨v, _, rfl, hk, ECells.append h h2⟩
theorem ECells.carry : ∀ {w w' : World} {lim : Nat} {xs : List Value} {l : List En}, ECells w lim xs l → Below lim w w' → ECells w' lim xs l
  | _, _, _, _, [], h, _ => h
  | _, _, _, _, d :: l, ⟨v, ys, e, hk, h⟩, hb => ⟨v, ys, e, hk.carry hb, h.carry hb⟩
theorem ECells.one : ∀ {w : World} {lim : Nat} {xs : List Value} {l : List En}, ECells w lim xs l → ∀ u ∈ xs, u.oneCell' = true
  | _, _, _, [], h, u, hu => by rw [show _ = [] from h] at hu; cases hu
  | _, _, _, d :: l, ⟨v, ys, e, hk, h⟩, u, hu => by
    obtain ⟨a, c, rfl, _⟩ := hk
    rw [e] at hu
    simp only [List.mem_cons] at hu
    rcases hu with rfl | rfl | rfl | rfl | rfl | hu
    · rfl
    · rfl
    · rfl
    · rfl
    · rfl
    · exact ECells.one h u hu
theorem ECells.at : ∀ {w : World} {lim : Nat} {xs : List Value} {l : List En} {i : Nat} {e : En}, ECells w lim xs l → l[i]? = some e → ∃ s, xs[i * 5]? = some (.int .i64 e.a) ∧ xs[i * 5 + 1]? = some (.int .i64 e.b) ∧ xs[i * 5 + 2]? = some (.int .i64 e.k) ∧ xs[i * 5 + 3]? = some (.int .i64 e.n) ∧ xs[i * 5 + 4]? = some s ∧ Kids w lim s e.ks
  | _, _, _, [], _, _, _, he => by simp at he
  | _, _, _, d :: l, 0, e, ⟨v, ys, hx, hk, h⟩, he => by
    simp at he; subst he
    rw [hx]
    exact ⟨v, rfl, rfl, rfl, rfl, rfl, hk⟩
  | _, _, _, d :: l, i + 1, e, ⟨v, ys, hx, hk, h⟩, he => by
    obtain ⟨s, h0, h1, h2, h3, h4, h5⟩ := ECells.at h (i := i) (e := e) (by simpa using he)
    refine ⟨s, ?_⟩
    rw [hx, show (i + 1) * 5 = i * 5 + 5 by omega, show i * 5 + 5 + 1 = i * 5 + 1 + 5 by omega, show i * 5 + 5 + 2 = i * 5 + 2 + 5 by omega, show i * 5 + 5 + 3 = i * 5 + 3 + 5 by omega, show i * 5 + 5 + 4 = i * 5 + 4 + 5 by omega]
    exact ⟨by simpa using h0, by simpa using h1, by simpa using h2, by simpa using h3, by simpa using h4, h5⟩
/-- An own row: in blocks from B on; kids below lim. -/
def OwnE (w : World) (lim B : Nat) (v : Value) (l : List En) : Prop := ∃ xs, w.ownsRow B 44 5 v l.length xs ∧ ECells w lim xs l
theorem OwnE.nil (w : World) (lim B : Nat) : OwnE w lim B (.slice none 0 0) [] := ⟨[], World.ownsRow_nil w B 44 5, rfl⟩
theorem OwnE.emp {w : World} {g lim B : Nat} (h : w.heap[g]? = some (.cells #[] 44 (0, 0))) (hB : B ≤ g) : OwnE w lim B (.slice (some ⟨g, 0, none⟩) 0 0) [] := ⟨[], ⟨rfl, .inr ⟨g, 0, #[], rfl, hB, h, Nat.le_refl _, by unfold maxLen; omega, rfl, rfl⟩⟩, rfl⟩
theorem OwnE.kept {w w' : World} {lim B : Nat} {v : Value} {l : List En} {row : Option Nat} (h : OwnE w lim B v l) (hb : w.grownBy w' row) (hne : v.ownBlock ≠ row ∨ v.ownBlock = none) (hlim : Below lim w w') : OwnE w' lim B v l := by
  obtain ⟨xs, h1, h2⟩ := h
  refine ⟨xs, World.ownsRow.kept h1 hb ?_, h2.carry hlim⟩
  rcases hne with hne | hne
  · exact .inr hne
  · exact .inl hne
theorem OwnE.below {w w' : World} {lim B : Nat} {v : Value} {l : List En} (h : OwnE w lim B v l) (hb : Below w.heap.size w w') (hl : lim ≤ w.heap.size) : OwnE w' lim B v l := by
  obtain ⟨xs, h1, h2⟩ := h
  exact ⟨xs, World.ownsRow.kept h1 (row := none) ⟨hb.os, hb.tape, hb.output, hb.size, fun i hi _ => hb.block i hi⟩ (by
    by_cases hn : v.ownBlock = none
    · exact .inl hn
    · exact .inr hn), h2.carry (hb.mono hl)⟩
theorem OwnE.mono {w : World} {lim B B' : Nat} {v : Value} {l : List En} (h : OwnE w lim B v l) (hb : B' ≤ B) : OwnE w lim B' v l := by
  obtain ⟨xs, ⟨h0, h1⟩, h2⟩ := h
  refine ⟨xs, ⟨h0, ?_⟩, h2⟩
  rcases h1 with h1 | ⟨g, cap, cur, e, hg, h1⟩
  · exact .inl h1
  · exact .inr ⟨g, cap, cur, e, Nat.le_trans hb hg, h1⟩
theorem ECells.mono : ∀ {w : World} {lim lim' : Nat} {xs : List Value} {l : List En}, ECells w lim xs l → lim ≤ lim' → ECells w lim' xs l
  | _, _, _, _, [], h, _ => h
  | _, _, _, _, d :: l, ⟨v, ys, e, hk, h⟩, hb => ⟨v, ys, e, hk.mono hb, h.mono hb⟩
/-- Where entries lie that are read. -/
def SrcE (w : World) (lim : Nat) (p : Option Addr) (l : List En) : Prop := ∀ i e, l[i]? = some e → ∃ b o s, p = some ⟨b, o, none⟩ ∧ w.cell? ⟨b, o + i * 5, none⟩ = some (.int .i64 e.a) ∧ w.cell? ⟨b, o + i * 5 + 1, none⟩ = some (.int .i64 e.b) ∧ w.cell? ⟨b, o + i * 5 + 2, none⟩ = some (.int .i64 e.k) ∧ w.cell? ⟨b, o + i * 5 + 3, none⟩ = some (.int .i64 e.n) ∧ w.cell? ⟨b, o + i * 5 + 4, none⟩ = some s ∧ Kids w lim s e.ks
/-- What an own row is. -/
theorem OwnE.form {w : World} {lim B : Nat} {v : Value} {l : List En} (h : OwnE w lim B v l) : (v = .slice none 0 0 ∧ l = []) ∨ ∃ g c, v = .slice (some ⟨g, 0, none⟩) l.length c ∧ B ≤ g ∧ g < w.heap.size ∧ l.length ≤ c ∧ c ≤ maxLen ∧ SrcE w lim (some ⟨g, 0, none⟩) l := by
  obtain ⟨xs, ⟨hl, h | ⟨g, cap, cur, rfl, hb, hh, hn, hm, hs, ht⟩⟩, h2⟩ := h
  · exact .inl ⟨h.1, List.eq_nil_of_length_eq_zero h.2⟩
  · refine .inr ⟨g, cap, rfl, hb, ?_, hn, hm, fun i e he => ?_⟩
    · by_cases hlt : g < w.heap.size
      · exact hlt
      · rw [Array.getElem?_eq_none (by omega)] at hh; cases hh
    · have hi := (List.getElem?_eq_some_iff.1 he).1
      obtain ⟨s, h0, h1, h2', h3, h4, h5⟩ := h2.at he
      have hc : ∀ j u, xs[j]? = some u → w.cell? ⟨g, j, none⟩ = some u := fun j u hj => by
        rw [cell_of_row _ _ _ _ _ _ hh, ← Array.getElem?_toList]
        rw [← ht] at hj
        rw [List.getElem?_take] at hj
        split at hj
        · exact hj
        · cases hj
      exact ⟨g, 0, s, rfl, hc _ _ (by simpa using h0), hc _ _ (by simpa using h1), hc _ _ (by simpa using h2'), hc _ _ (by simpa using h3), hc _ _ (by simpa using h4), h5⟩
theorem OwnE.rowN {w : World} {lim B : Nat} {v : Value} {l : List En} (h : OwnE w lim B v l) (hl : lim ≤ w.heap.size) : RowN w w.heap.size v l := by
  rcases h.form with ⟨rfl, rfl⟩ | ⟨g, c, rfl, hg, hgs, h1, h2, h3⟩
  · exact RowN.nought _ _
  · refine ⟨_, c, rfl, h1, h2, fun i e he => ?_⟩
    obtain ⟨b, o, s, hp, c0, c1, c2, c3, c4, hk⟩ := h3 i e he
    cases hp
    exact ⟨g, 0, rfl, hgs, s, c0, c1, c2, c3, c4, hk.mono hl⟩
theorem src_cells {w : World} {lim b : Nat} : ∀ (l : List En) (o : Nat), (∀ i e, l[i]? = some e → ∃ s, w.cell? ⟨b, o + i * 5, none⟩ = some (.int .i64 e.a) ∧ w.cell? ⟨b, o + i * 5 + 1, none⟩ = some (.int .i64 e.b) ∧ w.cell? ⟨b, o + i * 5 + 2, none⟩ = some (.int .i64 e.k) ∧ w.cell? ⟨b, o + i * 5 + 3, none⟩ = some (.int .i64 e.n) ∧ w.cell? ⟨b, o + i * 5 + 4, none⟩ = some s ∧ Kids w lim s e.ks) →
    ∃ news, ECells w lim news l ∧ ∀ j u, news[j]? = some u → w.cell? ⟨b, o + j, none⟩ = some u
  | [], o, _ => ⟨[], rfl, fun j u h => by simp at h⟩
  | e :: l, o, h => by
    obtain ⟨s, c0, c1, c2, c3, c4, hk⟩ := h 0 e rfl
    obtain ⟨news, hn, hc⟩ := src_cells l (o + 5) (fun i e he => by
      have := h (i + 1) e (by simpa using he)
      rw [show o + (i + 1) * 5 = o + 5 + i * 5 by omega] at this
      exact this)
    refine ⟨.int .i64 e.a :: .int .i64 e.b :: .int .i64 e.k :: .int .i64 e.n :: s :: news, ⟨s, news, rfl, hk, hn⟩, fun j u hj => ?_⟩
    match j, hj with
    | 0, hj => simp at hj; subst hj; simpa using c0
    | 1, hj => simp at hj; subst hj; simpa using c1
    | 2, hj => simp at hj; subst hj; simpa using c2
    | 3, hj => simp at hj; subst hj; simpa using c3
    | 4, hj => simp at hj; subst hj; simpa using c4
    | j + 5, hj =>
      have := hc j u (by simpa using hj)
      rw [show o + (j + 5) = o + 5 + j by omega]
      exact this
theorem SrcE.cells {w : World} {lim : Nat} {p : Option Addr} {l : List En} (h : SrcE w lim p l) (h0 : 0 < l.length) : ∃ b o news, p = some ⟨b, o, none⟩ ∧ ECells w lim news l ∧ ∀ j u, news[j]? = some u → w.cell? ((⟨b, o, none⟩ : Addr).add j) = some u := by
  obtain ⟨b, o, s, hp, _⟩ := h 0 _ (List.getElem?_eq_getElem h0)
  obtain ⟨news, h1, h2⟩ := src_cells (w := w) (lim := lim) (b := b) l o (fun i e he => by
    obtain ⟨b', o', s', hp', c0, c1, c2, c3, c4, hk⟩ := h i e he
    rw [hp] at hp'
    cases hp'
    exact ⟨s', c0, c1, c2, c3, c4, hk⟩)
  refine ⟨b, o, news, hp, h1, fun j u hj => ?_⟩
  rw [show (⟨b, o, none⟩ : Addr).add j = ⟨b, o + j, none⟩ by unfold Addr.add; split <;> simp_all]
  exact h2 j u hj
theorem SrcE.take {w : World} {lim : Nat} {p : Option Addr} {l : List En} (h : SrcE w lim p l) (k : Nat) : SrcE w lim p (l.take k) := fun i e he => h i e (by
  rw [List.getElem?_take] at he
  split at he
  · exact he
  · cases he)
theorem SrcE.drop {w : World} {lim g o : Nat} {l : List En} (h : SrcE w lim (some ⟨g, o, none⟩) l) (k : Nat) : SrcE w lim (some ⟨g, o + k * 5, none⟩) (l.drop k) := fun i e he => by
  obtain ⟨b, o', s, hp, c⟩ := h (k + i) e (by rw [List.getElem?_drop] at he; exact he)
  cases hp
  rw [show o + (k + i) * 5 = o + k * 5 + i * 5 by omega] at c
  exact ⟨g, o + k * 5, s, rfl, c⟩
theorem info_ent : (Tryz.prog.info? 44).map (fun i => (i.zero.map (fun z => z.cells.size), i.size, i.bytes)) = some (some 5, 5, 56) := by kernel_rfl
/-- 'append(l, m...)' onto an own row. -/
theorem wp_append_e {o : Oper} {a : Act} {K : Act → World → Prop} {Q : Exit → Act → World → Prop} {W : World} {lim B : Nat} {v : Value} {l l2 : List En} {p : Option Addr} {m c : Nat} (s x : Operand)
    (ho : o.op = .call { callee := .builtin .append, args := #[s, x], argTypes := #[22, 22] }) (hs : a.eval s = v) (hown : OwnE W lim B v l) (hx : a.eval x = .slice p m c) (hm : l2.length = m) (hsrc : SrcE W lim p l2)
    (hB : B ≤ W.heap.size) (hlB : lim ≤ B) (hlen : l.length + m ≤ 1000000)
    (h : ∀ v' w', OwnE w' lim B v' (l ++ l2) → W.grownBy w' v.ownBlock → K (a.put o.dst v') w') : o.wp Tryz.prog a W K Q := by
  obtain ⟨i0, hi⟩ : ∃ i, Tryz.prog.info? 44 = some i := by
    cases h0 : Tryz.prog.info? 44 with
    | none => have := info_ent; rw [h0] at this; cases this
    | some i => exact ⟨i, rfl⟩
  have h1 := info_ent
  rw [hi] at h1
  simp only [Option.map_some, Option.some.injEq, Prod.mk.injEq] at h1
  obtain ⟨hz, hsz, hby⟩ := h1
  obtain ⟨z, hz1, hz2⟩ : ∃ z, i0.zero = some z ∧ z.cells.size = 5 := by
    cases h0 : i0.zero with
    | none => rw [h0] at hz; cases hz
    | some z => rw [h0] at hz; simp at hz; exact ⟨z, rfl, hz⟩
  rcases Nat.eq_zero_or_pos m with h0 | h0
  · obtain rfl : l2 = [] := List.eq_nil_of_length_eq_zero (by omega)
    subst h0
    obtain ⟨q, len, cap, hv, hle⟩ : ∃ q len cap, v = .slice q len cap ∧ len ≤ cap := by
      rcases hown.form with ⟨rfl, rfl⟩ | ⟨g, c, rfl, _, _, h1, _⟩
      · exact ⟨_, _, _, rfl, Nat.le_refl _⟩
      · exact ⟨_, _, _, rfl, h1⟩
    have hsr : Src Tryz.prog i0.size 22 (.slice p 0 c) 0 [] W := by
      cases p with
      | none => exact Src.ofNil W Tryz.underlying22 c
      | some ad => exact Src.ofSlice W Tryz.underlying22 ad 0 c [] (by simp) (fun j u hj => by simp at hj) (fun u hu => by cases hu)
    have hrun := run_append_nothing (P := Tryz.prog) W 22 22 o.type 44 i0 Tryz.underlying22 hi q len cap hle _ hsr
    unfold Oper.wp execOp
    simp only [ho, resolve, invoke, builtin, Sem.run_bind, Sem.run_pure, Result.andThen_ok, List.map_toArray, List.map_cons, List.map_nil, hs, hx]
    rw [hv, hrun]
    rw [← hv]
    refine h v W (by rw [List.append_nil]; exact hown) ⟨rfl, rfl, rfl, Nat.le_refl _, fun i _ _ => rfl⟩
  · obtain ⟨b, of, news, rfl, hnews, hcell⟩ := hsrc.cells (by omega)
    obtain ⟨xs, ho1, ho2⟩ := hown
    refine wp_append_lies _ s x 22 ho B 44 i0 z 5 56 Tryz.underlying22 hi hz1 hsz hby hz2 (by decide) v l.length xs hs ho1 ⟨b, of, none⟩ m c news hx (by rw [hnews.len, hm]) hcell hnews.one h0 (by unfold maxLen; omega) (by omega) hB _ rfl ?_
    intro g cap w' h2 h3 h4 _
    refine h _ w' ⟨_, by rw [List.length_append, hm]; exact h2, (ho2.append hnews).carry ⟨h3.os, h3.tape, h3.output, h3.size, fun k hk => h3.block k (by omega) (fun e => by have := (World.ownsRow.lt ho1 k e.symm).1; omega)⟩⟩ h3
theorem OwnE.ownLe {w : World} {lim B : Nat} {v : Value} {l : List En} (h : OwnE w lim B v l) : ∀ i, v.ownBlock = some i → B ≤ i := fun i hi => by
  obtain ⟨xs, h1, h2⟩ := h
  exact (World.ownsRow.lt h1 i hi).1
theorem OwnE.ownLt {w : World} {lim B : Nat} {v : Value} {l : List En} (h : OwnE w lim B v l) : ∀ i, v.ownBlock = some i → i < w.heap.size := fun i hi => by
  obtain ⟨xs, h1, h2⟩ := h
  exact (World.ownsRow.lt h1 i hi).2
/-- One entry in a block of its own. -/
theorem src1 {w : World} {lim Y : Nat} {a b k n : Int} {s : Value} {ks : Fo} {T : TypeId} (h : w.heap[Y]? = some (.cells #[.int .i64 a, .int .i64 b, .int .i64 k, .int .i64 n, s] T (0, 0))) (hk : Kids w lim s ks) : SrcE w lim (some ⟨Y, 0, none⟩) [⟨a, b, k, n, ks⟩] := fun i e he => by
  match i, he with
  | 0, he =>
    simp at he; subst he
    obtain ⟨c0, c1, c2, c3, c4⟩ := cells5 h
    exact ⟨Y, 0, s, rfl, c0, c1, c2, c3, c4, hk⟩
end Go.Proofs.YtafmiilkdhdngaaGreatDoor
/- Reference 24: Ahead. -/
namespace Go.Proofs.YtafmiilkdhdngaaGreatDoor
open Go.ChangeShapes Go.WideShapes Go.ChangeAt Go.RowKit
set_option linter.unusedVariables false
set_option linter.unusedSimpArgs false
attribute [local go_sem ↓] Go.wp_at_zero Go.wp_at_succ
set_option maxRecDepth 100000 in
set_option maxHeartbeats 4000000 in
theorem r24_ahead (a b a' b' : Int) (W : World) : Calls Tryz.prog 30 #[.agg #[.int .i64 a, .int .i64 b], .agg #[.int .i64 a', .int .i64 b']] W fun e w' => e = .returned (.bool (Srt.klt (a, b) (a', b'))) ∧ Below W.heap.size W w' := by
  obtain ⟨w0, hw0, x0, x1, y0, y1, hB0, hs0⟩ := box2k W a b a' b' 39
  have HW0 := Lib.hid hw0.symm
  have HB0 := Lib.hid hB0
  have E := Lib.hid (show Srt.klt (a, b) (a', b') = decide (a < a' ∨ a = a' ∧ b < b') from rfl)
  generalize Srt.klt (a, b) (a', b') = z at *
  clear hw0 hB0 hs0
  rcases Int.lt_trichotomy a a' with h | h | h
  · have d1 : decide (a < a') = true := decide_eq_true h
    have E2 := Lib.hid (show z = true by rw [E.out]; exact decide_eq_true (.inl h))
    go_enter Tryz.func30, Tryz.ntmps30
    go_upto_region 1 with fail
    rw [HW0.out]
    go_wp2_with fail
    go_ret
    exact ⟨by rw [E2.out]; rfl, HB0.out⟩
  · have d1 : decide (a < a') = false := decide_eq_false (by omega)
    have d2 : (a == a') = true := by simp [h]
    have E2 := Lib.hid (show z = decide (b < b') by rw [E.out]; exact decide_eq_decide.2 (by omega))
    clear h
    go_enter Tryz.func30, Tryz.ntmps30
    go_upto_region 1 with fail
    rw [HW0.out]
    go_wp2_with fail
    go_ret
    exact ⟨by rw [E2.out]; rfl, HB0.out⟩
  · have d1 : decide (a < a') = false := decide_eq_false (by omega)
    have d2 : (a == a') = false := by simp; omega
    have E2 := Lib.hid (show z = false by rw [E.out]; exact decide_eq_false (by omega))
    clear h
    go_enter Tryz.func30, Tryz.ntmps30
    go_upto_region 1 with fail
    rw [HW0.out]
    go_wp2_with fail
    go_ret
    exact ⟨by rw [E2.out]; rfl, HB0.out⟩
end Go.Proofs.YtafmiilkdhdngaaGreatDoor
