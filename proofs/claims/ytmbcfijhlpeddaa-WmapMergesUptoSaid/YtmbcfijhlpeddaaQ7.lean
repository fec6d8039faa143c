/- Put together by program (merge2.py): Atg Cmpt Cmpd Cmpr Enb. -/
import Derived.BigRegion
import Derived.Deep.DeepCutAuto
import Derived.Test.YtmbcfijhlpeddaaD11
import Derived.Test.YtmbcfijhlpeddaaQ1
import Derived.Test.YtmbcfijhlpeddaaQ6
/- package desc's Clone and At, for every tree and path. -/
namespace Go.Proofs.Ytmbcfijhlpeddaa
open Go.ChangeShapes Go.WideShapes Go.ChangeAt Go.RowKit
set_option linter.unusedVariables false
set_option linter.unusedSimpArgs false
theorem desc_clone (k n : Int) (v : Value) (f : Fo) (lim : Nat) (W : World) (hK : Kids W lim v f) (hl : lim ≤ W.heap.size) (hC : f.cnt ≤ 1048576) :
    Calls Try.prog 26 #[.agg #[.int .i64 k, .int .i64 n, v]] W fun e w' => ∃ F q, e = .returned (.agg #[.int .i64 k, .int .i64 n, kidv F 0 f.len]) ∧ Cloned w' F f q ∧ W.heap.size ≤ F ∧ Below W.heap.size W w' :=
  desc_clone_of k n v f lim W hK hl hC (fun w hb => desc_nodes k n v lim f w (hK.below hl hb) (by have := hb.size; omega) hC)
end Go.Proofs.Ytmbcfijhlpeddaa
/- How two trees stand to each other, in numbers. -/
namespace Go.Proofs.Ytmbcfijhlpeddaa
open Go.ChangeShapes Go.WideShapes Go.ChangeAt Go.RowKit
set_option linter.unusedVariables false
def Fo.cmpF : Fo → Fo → Int
  | .cons k n ks r, .cons k' n' ks' r' => fz [cmp3 k k', cmp3 n n', cmp3 (ks.len : Int) (ks'.len : Int), ks.cmpF ks', r.cmpF r']
  | .nil, .nil => 0
  | .nil, .cons .. => -1
  | .cons .., .nil => 1
/-- How two nodes stand. -/
def cmpN (k n : Int) (ks : Fo) (k' n' : Int) (ks' : Fo) : Int := fz [cmp3 k k', cmp3 n n', cmp3 (ks.len : Int) (ks'.len : Int), ks.cmpF ks']
/-- Three answers go together. -/
def Goes (x y z : Int) : Prop := (x ≤ 0 → y ≤ 0 → z ≤ 0 ∧ (z = 0 ↔ x = 0 ∧ y = 0))
theorem fz_cons (x : Int) (l : List Int) : fz (x :: l) = if x = 0 then fz l else x := rfl
theorem goes_cons {x y z : Int} {l m t : List Int} (h : Goes x y z) (g : Goes (fz l) (fz m) (fz t)) : Goes (fz (x :: l)) (fz (y :: m)) (fz (z :: t)) := by
  rw [fz_cons, fz_cons, fz_cons]
  intro h1 h2
  by_cases hx : x = 0
  · by_cases hy : y = 0
    · obtain ⟨a1, a2⟩ := h (by omega) (by omega)
      have hz := a2.2 ⟨hx, hy⟩
      rw [if_pos hx] at h1 ⊢
      rw [if_pos hy] at h2 ⊢
      rw [if_pos hz]
      exact g h1 h2
    · rw [if_neg hy] at h2 ⊢
      obtain ⟨a1, a2⟩ := h (by omega) h2
      have hz : z ≠ 0 := fun e => hy (a2.1 e).2
      rw [if_neg hz]
      exact ⟨a1, fun e => absurd e hz, fun e => absurd e.2 hy⟩
  · rw [if_neg hx] at h1 ⊢
    have h3 : y ≤ 0 := by
      by_cases hy : y = 0
      · omega
      · rw [if_neg hy] at h2; exact h2
    obtain ⟨a1, a2⟩ := h h1 h3
    have hz : z ≠ 0 := fun e => hx (a2.1 e).1
    rw [if_neg hz]
    exact ⟨a1, fun e => absurd e hz, fun e => absurd e.1 hx⟩
theorem goes_3 (a b c : Int) : Goes (cmp3 a b) (cmp3 b c) (cmp3 a c) := by
  unfold Goes cmp3
  repeat' split
  all_goals omega
theorem goes_end (x y z : Int) (h : Goes x y z) : Goes (fz [x]) (fz [y]) (fz [z]) := goes_cons h (by unfold Goes fz; omega)
theorem cmpF_goes : ∀ (a b c : Fo), Goes (a.cmpF b) (b.cmpF c) (a.cmpF c)
  | .cons k n ks r, .cons k' n' ks' r', .cons k'' n'' ks'' r'' => by
    rw [Fo.cmpF, Fo.cmpF, Fo.cmpF]
    exact goes_cons (goes_3 _ _ _) (goes_cons (goes_3 _ _ _) (goes_cons (goes_3 _ _ _) (goes_cons (cmpF_goes ks ks' ks'') (goes_end _ _ _ (cmpF_goes r r' r'')))))
  | .nil, .nil, .nil => by unfold Goes Fo.cmpF; omega
  | .nil, .nil, .cons .. => by unfold Goes Fo.cmpF; omega
  | .nil, .cons .., .nil => by unfold Goes Fo.cmpF; omega
  | .nil, .cons .., .cons .. => by
    have : ∀ y, Goes (-1) y (-1) := fun y => by unfold Goes; omega
    exact this _
  | .cons .., .nil, .nil => by unfold Goes; simp only [Fo.cmpF]; omega
  | .cons .., .nil, .cons .. => by unfold Goes; simp only [Fo.cmpF]; omega
  | .cons .., .cons .., .nil => by unfold Goes; simp only [Fo.cmpF]; omega
theorem cmpN_goes (k n : Int) (ks : Fo) (k' n' : Int) (ks' : Fo) (k'' n'' : Int) (ks'' : Fo) : Goes (cmpN k n ks k' n' ks') (cmpN k' n' ks' k'' n'' ks'') (cmpN k n ks k'' n'' ks'') :=
  goes_cons (goes_3 _ _ _) (goes_cons (goes_3 _ _ _) (goes_cons (goes_3 _ _ _) (goes_end _ _ _ (cmpF_goes ks ks' ks''))))
theorem fz_one (x : Int) : fz [x] = x := by rw [fz_cons]; split <;> simp_all [fz]
theorem fz_neg2 (x : Int) (l m : List Int) (h : fz m = - fz l) : fz (-x :: m) = - fz (x :: l) := by
  rw [fz_cons, fz_cons, h]
  by_cases hx : x = 0
  · rw [if_pos hx, if_pos (by omega)]
  · rw [if_neg hx, if_neg (by omega)]
theorem cmpF_neg : ∀ (a b : Fo), b.cmpF a = - a.cmpF b
  | .cons k n ks r, .cons k' n' ks' r' => by
    rw [Fo.cmpF, Fo.cmpF, cmp3_neg k k', cmp3_neg n n', cmp3_neg (ks.len : Int), cmpF_neg ks ks', cmpF_neg r r']
    exact fz_neg2 _ _ _ (fz_neg2 _ _ _ (fz_neg2 _ _ _ (fz_neg2 _ _ _ (fz_neg2 _ [] [] rfl))))
  | .nil, .nil => rfl
  | .nil, .cons .. => rfl
  | .cons .., .nil => rfl
theorem cmpN_neg (k n : Int) (ks : Fo) (k' n' : Int) (ks' : Fo) : cmpN k' n' ks' k n ks = - cmpN k n ks k' n' ks' := by
  unfold cmpN
  rw [cmp3_neg k k', cmp3_neg n n', cmp3_neg (ks.len : Int), cmpF_neg ks ks']
  exact fz_neg2 _ _ _ (fz_neg2 _ _ _ (fz_neg2 _ _ _ (fz_neg2 _ [] [] rfl)))
theorem cmpF_self (a : Fo) : a.cmpF a = 0 := by have := cmpF_neg a a; omega
theorem cmpN_self (k n : Int) (ks : Fo) : cmpN k n ks k n ks = 0 := by have := cmpN_neg k n ks k n ks; omega
theorem fz_bd : ∀ l : List Int, (∀ x ∈ l, -1 ≤ x ∧ x ≤ 1) → -1 ≤ fz l ∧ fz l ≤ 1
  | [], _ => by unfold fz; omega
  | x :: l, h => by
    rw [fz_cons]
    split
    · exact fz_bd l fun y hy => h y (List.mem_cons_of_mem _ hy)
    · exact h x (List.mem_cons_self ..)
theorem cmp3_bd (x y : Int) : -1 ≤ cmp3 x y ∧ cmp3 x y ≤ 1 := by unfold cmp3; split <;> (try split) <;> omega
theorem cmpF_bd : ∀ (a b : Fo), -1 ≤ a.cmpF b ∧ a.cmpF b ≤ 1
  | .cons k n ks r, .cons k' n' ks' r' => by
    rw [Fo.cmpF]
    refine fz_bd _ fun x hx => ?_
    simp only [List.mem_cons, List.not_mem_nil, or_false] at hx
    rcases hx with rfl | rfl | rfl | rfl | rfl
    · exact cmp3_bd _ _
    · exact cmp3_bd _ _
    · exact cmp3_bd _ _
    · exact cmpF_bd ks ks'
    · exact cmpF_bd r r'
  | .nil, .nil => by unfold Fo.cmpF; omega
  | .nil, .cons .. => by unfold Fo.cmpF; omega
  | .cons .., .nil => by unfold Fo.cmpF; omega
theorem cmpN_bd (k n : Int) (ks : Fo) (k' n' : Int) (ks' : Fo) : -1 ≤ cmpN k n ks k' n' ks' ∧ cmpN k n ks k' n' ks' ≤ 1 := by
  refine fz_bd _ fun x hx => ?_
  simp only [List.mem_cons, List.not_mem_nil, or_false] at hx
  rcases hx with rfl | rfl | rfl | rfl
  · exact cmp3_bd _ _
  · exact cmp3_bd _ _
  · exact cmp3_bd _ _
  · exact cmpF_bd ks ks'
/-- The kids from the i-th on, of two rows of one length. -/
theorem cmpF_drop (a b : Fo) (i : Nat) (ha : i < a.len) (hb : i < b.len) : (a.drop i).cmpF (b.drop i) = if cmpN (a.k i) (a.n i) (a.kids i) (b.k i) (b.n i) (b.kids i) = 0 then (a.drop (i + 1)).cmpF (b.drop (i + 1)) else cmpN (a.k i) (a.n i) (a.kids i) (b.k i) (b.n i) (b.kids i) := by
  rw [Fo.drop_at a i ha, Fo.drop_at b i hb, Fo.cmpF]
  unfold cmpN
  simp only [fz_cons]
  generalize cmp3 (a.k i) (b.k i) = x1
  generalize cmp3 (a.n i) (b.n i) = x2
  generalize cmp3 ((a.kids i).len : Int) ((b.kids i).len : Int) = x3
  generalize (a.kids i).cmpF (b.kids i) = x4
  generalize (a.drop (i + 1)).cmpF (b.drop (i + 1)) = x5
  unfold fz
  by_cases h1 : x1 = 0 <;> by_cases h2 : x2 = 0 <;> by_cases h3 : x3 = 0 <;> by_cases h4 : x4 = 0 <;> by_cases h5 : x5 = 0 <;> simp [h1, h2, h3, h4, h5]
theorem cmpF_end (a b : Fo) (m : Nat) (ha : a.len = m) (hb : b.len = m) : (a.drop m).cmpF (b.drop m) = 0 := by
  have h1 : a.drop m = .nil := by rw [← ha]; exact Fo.drop_len a
  have h2 : b.drop m = .nil := by rw [← hb]; exact Fo.drop_len b
  rw [h1, h2]; rfl
end Go.Proofs.Ytmbcfijhlpeddaa
/- How two trees stand: package desc's Cmp and Same. -/
namespace Go.Proofs.Ytmbcfijhlpeddaa
open Go.ChangeShapes Go.WideShapes Go.ChangeAt Go.RowKit
set_option linter.unusedVariables false
theorem row3_lies (w : World) (T : TypeId) (a b c : Int) (ha : (Lit.int .i64 a).wf = true) (hb : (Lit.int .i64 b).wf = true) (hc : (Lit.int .i64 c).wf = true) :
    RowI (w.alloc (.cells #[.int .i64 a, .int .i64 b, .int .i64 c] T)) (some ⟨w.heap.size, 0, none⟩) 3 [a, b, c] := by
  refine ⟨rfl, .inr ⟨w.heap.size, 0, rfl, by simp, fun i hi => ?_⟩, fun z hz => ?_, by omega⟩
  · rw [cell_of_row _ _ _ _ _ _ (heap_alloc_new w _)]
    have : i = 0 ∨ i = 1 ∨ i = 2 := by simp at hi; omega
    rcases this with rfl | rfl | rfl <;> rfl
  · simp only [List.mem_cons, List.not_mem_nil, or_false] at hz
    rcases hz with rfl | rfl | rfl <;> assumption
/-- Two blocks of three cells, one behind the other. -/
theorem two3 (W : World) (k n k' n' : Int) (v v' : Value) (T : TypeId) : ∃ w2 : World, w2 = (W.alloc (.cells #[.int .i64 k, .int .i64 n, v] T)).alloc (.cells #[.int .i64 k', .int .i64 n', v'] T) ∧
    (w2.cell? ⟨W.heap.size, 0, none⟩ = some (.int .i64 k) ∧ w2.cell? ⟨W.heap.size, 1, none⟩ = some (.int .i64 n) ∧ w2.cell? ⟨W.heap.size, 2, none⟩ = some v) ∧
    (w2.cell? ⟨W.heap.size + 1, 0, none⟩ = some (.int .i64 k') ∧ w2.cell? ⟨W.heap.size + 1, 1, none⟩ = some (.int .i64 n') ∧ w2.cell? ⟨W.heap.size + 1, 2, none⟩ = some v') ∧ Below W.heap.size W w2 ∧ w2.heap.size = W.heap.size + 2 := by
  obtain ⟨w1, h1, a0, a1, a2, b1, s1⟩ := box3 W k n v T
  obtain ⟨w2, h2, c0, c1, c2, b2, s2⟩ := box3 w1 k' n' v' T
  have lt : W.heap.size < w1.heap.size := by omega
  rw [s1] at c0 c1 c2
  refine ⟨w2, by rw [h2, h1], ⟨?_, ?_, ?_⟩, ⟨c0, c1, c2⟩, b1.trans (b2.mono b1.size), by omega⟩
  · exact (b2.cell (p := ⟨W.heap.size, 0, none⟩) lt).trans a0
  · exact (b2.cell (p := ⟨W.heap.size, 1, none⟩) lt).trans a1
  · exact (b2.cell (p := ⟨W.heap.size, 2, none⟩) lt).trans a2
theorem cmp3_zero {x y : Int} (h : cmp3 x y = 0) : x = y := by unfold cmp3 at h; split at h; · cases h
                                                               · split at h; · cases h
                                                                 · omega
theorem cmpN_part (k n : Int) (ks : Fo) (k' n' : Int) (ks' : Fo) : cmpN k n ks k' n' ks' = if fz [cmp3 k k', cmp3 n n', cmp3 (ks.len : Int) (ks'.len : Int)] = 0 then ks.cmpF ks' else fz [cmp3 k k', cmp3 n n', cmp3 (ks.len : Int) (ks'.len : Int)] := by
  unfold cmpN
  simp only [fz_cons]
  generalize cmp3 k k' = x1
  generalize cmp3 n n' = x2
  generalize cmp3 (ks.len : Int) (ks'.len : Int) = x3
  generalize ks.cmpF ks' = x4
  unfold fz
  by_cases h1 : x1 = 0 <;> by_cases h2 : x2 = 0 <;> by_cases h3 : x3 = 0 <;> by_cases h4 : x4 = 0 <;> simp [h1, h2, h3, h4]
theorem fz3_zero {k k' n n' m m' : Int} (h : fz [cmp3 k k', cmp3 n n', cmp3 m m'] = 0) : m = m' := by
  simp only [fz_cons] at h
  unfold fz at h
  split at h
  · split at h
    · split at h
      · rename_i h3; exact cmp3_zero h3
      · exact absurd h (by assumption)
    · exact absurd h (by assumption)
  · exact absurd h (by assumption)
end Go.Proofs.Ytmbcfijhlpeddaa
/- Reference 13's Cmp and Same; package desc's Same. -/
namespace Go.Proofs.Ytmbcfijhlpeddaa
open Go.ChangeShapes Go.WideShapes Go.ChangeAt Go.RowKit
set_option linter.unusedVariables false
theorem three_at {t : Nat} (ht : t < 3) : t = 0 ∨ t = 1 ∨ t = 2 := by omega
/-- A block of three numbers. -/
theorem row3 (W : World) (a b c : Int) (T : TypeId) : ∃ w0 : World, w0 = W.alloc (.cells #[.int .i64 a, .int .i64 b, .int .i64 c] T) ∧ (∀ t, t < 3 → w0.cell? ⟨W.heap.size, t, none⟩ = some (.int .i64 ([a, b, c].getD t 0))) ∧ Below W.heap.size W w0 ∧ w0.heap.size = W.heap.size + 1 := by
  obtain ⟨w0, h, a0, a1, a2, b1, s1⟩ := box3 W a b (.int .i64 c) T
  refine ⟨w0, h, fun t ht => ?_, b1, s1⟩
  rcases three_at ht with rfl | rfl | rfl
  · exact a0
  · exact a1
  · exact a2
set_option maxRecDepth 100000 in
set_option maxHeartbeats 8000000 in
theorem r13_cmp (N : Nat) : ∀ (ks ks' : Fo) (v v' : Value) (k n k' n' : Int) (lim : Nat) (W : World), ks.cnt ≤ N → Kids W lim v ks → Kids W lim v' ks' → lim ≤ W.heap.size →
    Calls Try.prog 27 #[.agg #[.int .i64 k, .int .i64 n, v], .agg #[.int .i64 k', .int .i64 n', v']] W fun e w' => e = .returned (.int .i64 (cmpN k n ks k' n' ks')) ∧ Below W.heap.size W w' := by
  induction N using Nat.strongRecOn with
  | _ N ih =>
  intro ks ks' v v' k n k' n' lim W hN hK hK' hl
  obtain ⟨p, m, c, rfl, hc1, hc2, HM⟩ := hK.shape
  obtain ⟨p', m', c', rfl, hc1', hc2', HM'⟩ := hK'.shape
  have CP := Lib.hid (show cmpN k n ks k' n' ks' = if fz [cmp3 k k', cmp3 n n', cmp3 (m : Int) (m' : Int)] = 0 then ks.cmpF ks' else fz [cmp3 k k', cmp3 n n', cmp3 (m : Int) (m' : Int)] by rw [HM.out, HM'.out]; exact cmpN_part k n ks k' n' ks')
  have CZ := Lib.hid (fun (h : fz [cmp3 k k', cmp3 n n', cmp3 (m : Int) (m' : Int)] = 0) => (show m = m' by have := fz3_zero h; omega))
  obtain ⟨w0, hw0, ⟨a0, a1, a2⟩, ⟨b0, b1, b2⟩, hB, hsz⟩ := two3 W k n k' n' (.slice p m c) (.slice p' m' c') 34
  obtain ⟨w1, hw1, hxs, hB1, hs1⟩ := row3 w0 k n (m : Int) 3
  obtain ⟨w2, hw2, hys, hB2, hs2⟩ := row3 w1 k' n' (m' : Int) 3
  have lx1 : w0.heap.size < w1.heap.size := by omega
  have ZA := Lib.hid (fz_at [cmp3 k k', cmp3 n n', cmp3 (m : Int) (m' : Int)])
  have ZN := Lib.hid (fz_none [cmp3 k k', cmp3 n n', cmp3 (m : Int) (m' : Int)])
  have ZG := Lib.hid (fun t (ht : t < 3) => (show [cmp3 k k', cmp3 n n', cmp3 (m : Int) (m' : Int)].getD t 0 = cmp3 ([k, n, (m : Int)].getD t 0) ([k', n', (m' : Int)].getD t 0) by
    rcases three_at ht with rfl | rfl | rfl <;> rfl))
  have ZL := Lib.hid (show [cmp3 k k', cmp3 n n', cmp3 (m : Int) (m' : Int)].length = 3 from rfl)
  have HX := Lib.hid (fun t (ht : t < 3) => (hB2.cell (p := ⟨w0.heap.size, t, none⟩) lx1).trans (hxs t ht))
  have HY := Lib.hid hys
  have h02 := hB1.trans (hB2.mono hB1.size)
  have hW := hB.trans (h02.mono hB.size)
  have lt0 : W.heap.size < w0.heap.size := by omega
  have lt1 : W.heap.size + 1 < w0.heap.size := by omega
  have f2 := (h02.cell (p := ⟨W.heap.size, 2, none⟩) lt0).trans a2
  have f5 := (h02.cell (p := ⟨W.heap.size + 1, 2, none⟩) lt1).trans b2
  have hK1 := hK.below hl hW
  have hK1' := hK'.below hl hW
  have IH := Lib.hid (fun i (hi : i < ks.len) (v v' : Value) (w : World) h1 h2 h3 => ih (ks.kids i).cnt (Nat.lt_of_lt_of_le (Fo.cnt_kids ks i hi) hN) (ks.kids i) (ks'.kids i) v v' (ks.k i) (ks.n i) (ks'.k i) (ks'.n i) lim w (Nat.le_refl _) h1 h2 h3)
  have CD := Lib.hid (fun i (hi : i < m) (h : m = m') => (show (ks.drop i).cmpF (ks'.drop i) = if cmpN (ks.k i) (ks.n i) (ks.kids i) (ks'.k i) (ks'.n i) (ks'.kids i) = 0 then (ks.drop (i + 1)).cmpF (ks'.drop (i + 1)) else cmpN (ks.k i) (ks.n i) (ks.kids i) (ks'.k i) (ks'.n i) (ks'.kids i) from cmpF_drop ks ks' i (by rw [← HM.out]; exact hi) (by rw [← HM'.out]; omega)))
  have CE := Lib.hid (fun (h : m = m') => cmpF_end ks ks' m HM.out.symm (HM'.out.symm.trans h.symm))
  have C0 := Lib.hid (show ks.cmpF ks' = (ks.drop 0).cmpF (ks'.drop 0) by rw [Fo.drop_zero, Fo.drop_zero])
  have hl1 : lim ≤ w2.heap.size := by omega
  rw [hw1] at hw2
  rw [hw0] at hw2
  have hzs : W.heap.size + 2 = w0.heap.size := hsz.symm
  have hws : w1.heap.size = w0.heap.size + 1 := hs1
  rw [hws] at HY
  rw [hsz] at HX HY
  clear ih hN hw0 hw1 hxs hys hB h02 hK hK' hB1 hB2 a0 a1 a2 b0 b1 b2 hws lx1
  generalize cmpN k n ks k' n' ks' = Z at *
  generalize [cmp3 k k', cmp3 n n', cmp3 (m : Int) (m' : Int)] = zs at *
  have w3 : w2.heap.size = W.heap.size + 4 := by omega
  clear hs1 hs2 hsz hzs lt0 lt1
  generalize hxs : [k, n, (m : Int)] = xs at HX ZG
  generalize hys : [k', n', (m' : Int)] = ys at HY ZG
  clear hxs hys
  have EX : Hid (∀ t, t < 3 → w2.cell? ⟨W.heap.size + 1 + 1, t, none⟩ = some (.int .i64 (xs.getD t 0))) := HX
  have EY : Hid (∀ t, t < 3 → w2.cell? ⟨W.heap.size + 1 + 1 + 1, t, none⟩ = some (.int .i64 (ys.getD t 0))) := HY
  clear HX HY
  go_enter Try.func27, Try.ntmps27
  go_wp2_with fail
  rw [← hw2]
  clear hw2
  go_loopw [7] (fun x wr => ∃ j : Nat, j ≤ 3 ∧ x = .int .i64 j ∧ Hid (∀ t, t < j → zs.getD t 0 = 0) ∧ Hid (Below w2.heap.size w2 wr)) (fun x _ => 3 - (intOf x).toNat)
  case atStart => exact ⟨0, by omega, rfl, Lib.hid (fun t ht => by omega), Lib.hid (Below.refl _ _)⟩
  case round =>
    obtain ⟨j, hj, rfl, HZ, HB⟩ := hrel
    by_cases hlt : j < 3
    · have hd : decide ((j : Int) < 3) = true := decide_eq_true (by omega)
      have G := ZG.out j hlt
      have hcx := (HB.out.cell (p := ⟨W.heap.size + 1 + 1, j, none⟩) (by show W.heap.size + 1 + 1 < _; omega)).trans (EX.out j hlt)
      have hcy := (HB.out.cell (p := ⟨W.heap.size + 1 + 1 + 1, j, none⟩) (by show W.heap.size + 1 + 1 + 1 < _; omega)).trans (EY.out j hlt)
      have ZA1 := Lib.hid (ZA.out j (by rw [ZL.out]; exact hlt) HZ.out)
      have ZS := Lib.hid (fun (h : zs.getD j 0 = 0) t (ht : t < j + 1) => (show zs.getD t 0 = 0 by
        by_cases e : t = j
        · rw [e]; exact h
        · exact HZ.out t (by omega)))
      have ZZ := Lib.hid (fun (h : fz zs ≠ 0) => (show Z = fz zs by rw [CP.out, if_neg h]))
      generalize zs.getD j 0 = cz at *
      generalize xs.getD j 0 = x at *
      generalize ys.getD j 0 = y at *
      clear HZ CP CZ CD CE C0 ZN hK1 hK1' IH
      rcases Int.lt_trichotomy x y with h | h | h
      · rw [cmp3_lt h] at G
        have d1 : decide (x < y) = true := decide_eq_true h
        have E1 := Lib.hid (show Z = -1 by have h1 := ZA1.out (by omega); rw [ZZ.out (by omega), h1, G])
        go_wp2_with fail
        go_quiet (fail)
        go_wp2_with fail
        go_ret
        exact ⟨by rw [E1.out]; rfl, by first | exact hW.trans (Below.mono (below_drewN HB.out _) hW.size) | exact hW.trans (Below.mono (below_drewN (below_drewN HB.out _) _) hW.size)⟩
      · rw [cmp3_eq h] at G
        subst h
        have d1 : decide (x < x) = false := decide_eq_false (by omega)
        have ZS1 := Lib.hid (ZS.out G)
        go_wp2_with fail
        go_quiet (fail)
        go_wp2_with fail
        go_quiet (fail)
        go_wp2_with fail
        go_roundw
        case rel => exact ⟨j + 1, by omega, by go_num, ZS1, Lib.hid (below_drewN HB.out _)⟩
        case measure => (first | (simp [intOf]; done) | (simp [intOf]; omega) | (simp only [intOf]; omega))
      · rw [cmp3_gt h] at G
        have d1 : decide (x < y) = false := decide_eq_false (by omega)
        have d2 : decide (y < x) = true := decide_eq_true h
        have E1 := Lib.hid (show Z = 1 by have h1 := ZA1.out (by omega); rw [ZZ.out (by omega), h1, G])
        go_wp2_with fail
        go_quiet (fail)
        go_wp2_with fail
        go_quiet (fail)
        go_wp2_with fail
        go_ret
        exact ⟨by rw [E1.out]; rfl, by first | exact hW.trans (Below.mono (below_drewN HB.out _) hW.size) | exact hW.trans (Below.mono (below_drewN (below_drewN HB.out _) _) hW.size)⟩
    · obtain rfl : j = 3 := by omega
      have E1 := ZN.out (fun t ht => HZ.out t (by rw [ZL.out] at ht; exact ht))
      have hm := CZ.out E1
      subst hm
      have R0 := Lib.hid (show Z = (ks.drop 0).cmpF (ks'.drop 0) by rw [CP.out, if_pos E1, C0.out])
      have hs := HB.out.size
      have f2 := (HB.out.cell (p := ⟨W.heap.size, 2, none⟩) (by show W.heap.size < _; omega)).trans f2
      have f5 := (HB.out.cell (p := ⟨W.heap.size + 1, 2, none⟩) (by show W.heap.size + 1 < _; omega)).trans f5
      have hK1 := hK1.below hl1 HB.out
      have hK1' := hK1'.below hl1 HB.out
      have hW := hW.trans (HB.out.mono hW.size)
      have hl1 : lim ≤ wr.heap.size := by omega
      have lX : W.heap.size < wr.heap.size := by omega
      have lY : W.heap.size + 1 < wr.heap.size := by omega
      clear CP CZ C0 ZA ZN ZG ZL EX EY HZ HB E1
      generalize W.heap.size + 1 = Y at *
      generalize hX : W.heap.size = X at *
      have HW := Lib.hid hW
      clear hW
      generalize wr = wo at *
      have hB0 := Below.refl wo.heap.size wo
      go_wp2_with fail
      go_loopw [8] (fun x wq => ∃ i : Nat, i ≤ m ∧ x = .int .i64 i ∧ Hid (Z = (ks.drop i).cmpF (ks'.drop i)) ∧ Hid (Below wo.heap.size wo wq)) (fun x _ => m - (intOf x).toNat)
      case atStart => exact ⟨0, Nat.zero_le _, rfl, R0, Lib.hid hB0⟩
      case round =>
        clear R0 hB0
        obtain ⟨i, hi, rfl, HZ, HB⟩ := hrel
        have hs := HB.out.size
        have k2 := (HB.out.cell (p := ⟨X, 2, none⟩) lX).trans f2
        have q2 := (HB.out.cell (p := ⟨Y, 2, none⟩) lY).trans f5
        by_cases hlt : i < m
        case neg =>
          obtain rfl : i = m := by omega
          have dd : decide ((i : Int) < (i : Int)) = false := decide_eq_false (by omega)
          have E := Lib.hid (show (0 : Int) = Z by rw [HZ.out, CE.out trivial])
          go_wp2_with fail
          go_ret
          exact ⟨ret_i64 E.out, by have h := HW.out; rw [← hX] at h; first | exact h.trans (HB.out.mono (by have := h.size; omega)) | (rw [← hX]; exact h.trans (HB.out.mono (by have := h.size; omega)))⟩
        obtain ⟨b, o, v, rfl, hb, g0, g1, g2, hki⟩ := (hK1.below hl1 HB.out).get hlt
        obtain ⟨b', o', v', rfl, hb', h0, h1, h2, hki'⟩ := (hK1'.below hl1 HB.out).get hlt
        obtain ⟨px, mx, cx, rfl, _, _, _⟩ := hki.shape
        obtain ⟨py, my, cy, rfl, _, _, _⟩ := hki'.shape
        have dd : decide ((i : Int) < (m : Int)) = true := decide_eq_true (by omega)
        have lb : b < wr.heap.size := by omega
        have lb' : b' < wr.heap.size := by omega
        have lX : X < wr.heap.size := by omega
        have lY : Y < wr.heap.size := by omega
        have hlr : lim ≤ wr.heap.size := by omega
        have CI := Lib.hid (fun w' (hb : Below wr.heap.size wr w') => IH.out i (by rw [← HM.out]; exact hlt) (.slice px mx cx) (.slice py my cy) w' (hki.below hlr hb) (hki'.below hlr hb) (by have := hb.size; omega))
        have DI := Lib.hid (CD.out i hlt trivial)
        have HZ1 := Lib.hid HZ.out
        rw [DI.out] at HZ1
        generalize cmpN (ks.k i) (ks.n i) (ks.kids i) (ks'.k i) (ks'.n i) (ks'.kids i) = D at *
        generalize ks.k i = kx at *
        generalize ks.n i = nx at *
        generalize ks'.k i = ky at *
        generalize ks'.n i = ny at *
        have MK := Lib.hid (fun w' (hb : Below wr.heap.size wr w') => (show w'.cell? ⟨X, 2, none⟩ = some (.slice (some ⟨b, o, none⟩) m c) ∧ w'.cell? ⟨Y, 2, none⟩ = some (.slice (some ⟨b', o', none⟩) m c') ∧ w'.cell? ⟨b, o + i * 3, none⟩ = some (.int .i64 kx) ∧ w'.cell? ⟨b, o + i * 3 + 1, none⟩ = some (.int .i64 nx) ∧ w'.cell? ⟨b, o + i * 3 + 2, none⟩ = some (.slice px mx cx) ∧ w'.cell? ⟨b', o' + i * 3, none⟩ = some (.int .i64 ky) ∧ w'.cell? ⟨b', o' + i * 3 + 1, none⟩ = some (.int .i64 ny) ∧ w'.cell? ⟨b', o' + i * 3 + 2, none⟩ = some (.slice py my cy) ∧ Below wr.heap.size wr w' from
          ⟨(hb.cell (p := ⟨X, 2, none⟩) lX).trans k2, (hb.cell (p := ⟨Y, 2, none⟩) lY).trans q2, (hb.cell (p := ⟨b, o + i * 3, none⟩) lb).trans g0, (hb.cell (p := ⟨b, o + i * 3 + 1, none⟩) lb).trans g1, (hb.cell (p := ⟨b, o + i * 3 + 2, none⟩) lb).trans g2, (hb.cell (p := ⟨b', o' + i * 3, none⟩) lb').trans h0, (hb.cell (p := ⟨b', o' + i * 3 + 1, none⟩) lb').trans h1, (hb.cell (p := ⟨b', o' + i * 3 + 2, none⟩) lb').trans h2, hb⟩))
        have KP := Lib.hid (fun w1 w' (hS : w1.cell? ⟨X, 2, none⟩ = some (.slice (some ⟨b, o, none⟩) m c) ∧ w1.cell? ⟨Y, 2, none⟩ = some (.slice (some ⟨b', o', none⟩) m c') ∧ w1.cell? ⟨b, o + i * 3, none⟩ = some (.int .i64 kx) ∧ w1.cell? ⟨b, o + i * 3 + 1, none⟩ = some (.int .i64 nx) ∧ w1.cell? ⟨b, o + i * 3 + 2, none⟩ = some (.slice px mx cx) ∧ w1.cell? ⟨b', o' + i * 3, none⟩ = some (.int .i64 ky) ∧ w1.cell? ⟨b', o' + i * 3 + 1, none⟩ = some (.int .i64 ny) ∧ w1.cell? ⟨b', o' + i * 3 + 2, none⟩ = some (.slice py my cy) ∧ Below wr.heap.size wr w1) (hb : Below w1.heap.size w1 w') => MK.out w' (hS.2.2.2.2.2.2.2.2.trans (hb.mono hS.2.2.2.2.2.2.2.2.size)))
        clear hki hki' DI HZ
        by_cases hD : D = 0
        · have dD : (D != 0) = false := by simp [hD]
          have E := Lib.hid (show Z = (ks.drop (i + 1)).cmpF (ks'.drop (i + 1)) by rw [HZ1.out, if_pos hD])
          go_wp2_with fail
          go_region_held3 (fun w' => w'.cell? ⟨X, 2, none⟩ = some (.slice (some ⟨b, o, none⟩) m c) ∧ w'.cell? ⟨Y, 2, none⟩ = some (.slice (some ⟨b', o', none⟩) m c') ∧ w'.cell? ⟨b, o + i * 3, none⟩ = some (.int .i64 kx) ∧ w'.cell? ⟨b, o + i * 3 + 1, none⟩ = some (.int .i64 nx) ∧ w'.cell? ⟨b, o + i * 3 + 2, none⟩ = some (.slice px mx cx) ∧ w'.cell? ⟨b', o' + i * 3, none⟩ = some (.int .i64 ky) ∧ w'.cell? ⟨b', o' + i * 3 + 1, none⟩ = some (.int .i64 ny) ∧ w'.cell? ⟨b', o' + i * 3 + 2, none⟩ = some (.slice py my cy) ∧ Below wr.heap.size wr w') (first | exact MK.out _ ((Below.refl _ _).drew) | assumption | (refine KP.out _ _ ?_ hb; first | assumption | exact MK.out _ ((Below.refl _ _).drew))) (first | (go_at_call 27; (with_reducible refine (CI.out _ (by go_split_ands; assumption)).mono ?_); rintro e w' ⟨rfl, hb⟩))
          rename_i hSS
          obtain ⟨_, _, _, _, _, _, _, _, hBB⟩ := hSS
          go_wp2_with fail
          go_roundw
          case rel => exact ⟨i + 1, by omega, by go_num, E, Lib.hid (HB.out.trans (hBB.mono hs))⟩
          case measure => (first | (simp [intOf]; done) | (simp [intOf]; omega) | (simp only [intOf]; omega))
        · have dD : (D != 0) = true := by simp [hD]
          have E := Lib.hid (show D = Z by rw [HZ1.out, if_neg hD])
          go_wp2_with fail
          go_region_held3 (fun w' => w'.cell? ⟨X, 2, none⟩ = some (.slice (some ⟨b, o, none⟩) m c) ∧ w'.cell? ⟨Y, 2, none⟩ = some (.slice (some ⟨b', o', none⟩) m c') ∧ w'.cell? ⟨b, o + i * 3, none⟩ = some (.int .i64 kx) ∧ w'.cell? ⟨b, o + i * 3 + 1, none⟩ = some (.int .i64 nx) ∧ w'.cell? ⟨b, o + i * 3 + 2, none⟩ = some (.slice px mx cx) ∧ w'.cell? ⟨b', o' + i * 3, none⟩ = some (.int .i64 ky) ∧ w'.cell? ⟨b', o' + i * 3 + 1, none⟩ = some (.int .i64 ny) ∧ w'.cell? ⟨b', o' + i * 3 + 2, none⟩ = some (.slice py my cy) ∧ Below wr.heap.size wr w') (first | exact MK.out _ ((Below.refl _ _).drew) | assumption | (refine KP.out _ _ ?_ hb; first | assumption | exact MK.out _ ((Below.refl _ _).drew))) (first | (go_at_call 27; (with_reducible refine (CI.out _ (by go_split_ands; assumption)).mono ?_); rintro e w' ⟨rfl, hb⟩))
          rename_i hSS
          obtain ⟨_, _, _, _, _, _, _, _, hBB⟩ := hSS
          go_wp2_with fail
          go_ret
          exact ⟨ret_i64 E.out, by have h := HW.out; rw [← hX] at h; have g := h.trans ((HB.out.trans (hBB.mono hs)).mono (by have := h.size; omega)); first | exact g | (rw [← hX]; exact g)⟩
/-- Are two trees one? -/
theorem r13_same (ks ks' : Fo) (v v' : Value) (k n k' n' : Int) (lim : Nat) (W : World) (hK : Kids W lim v ks) (hK' : Kids W lim v' ks') (hl : lim ≤ W.heap.size) :
    Calls Try.prog 15 #[.agg #[.int .i64 k, .int .i64 n, v], .agg #[.int .i64 k', .int .i64 n', v']] W fun e w' => e = .returned (.bool (decide (cmpN k n ks k' n' ks' = 0))) ∧ Below W.heap.size W w' := by
  have CI := Lib.hid (fun w' h h' g => r13_cmp ks.cnt ks ks' v v' k n k' n' lim w' (Nat.le_refl _) h h' g)
  obtain ⟨p, m, c, rfl, hc1, hc2, HM⟩ := hK.shape
  obtain ⟨p', m', c', rfl, hc1', hc2', HM'⟩ := hK'.shape
  obtain ⟨w0, hw0, ⟨a0, a1, a2⟩, ⟨b0, b1, b2⟩, hB, hsz⟩ := two3 W k n k' n' (.slice p m c) (.slice p' m' c') 34
  have hK0 := hK.below hl hB
  have hK0' := hK'.below hl hB
  have dz : (cmpN k n ks k' n' ks' == 0) = decide (cmpN k n ks k' n' ks' = 0) := rfl
  generalize decide (cmpN k n ks k' n' ks' = 0) = z at *
  generalize cmpN k n ks k' n' ks' = D at *
  go_enter Try.func15, Try.ntmps15
  go_wp2_with fail
  rw [← hw0]
  clear hw0
  refine (CI.out _ hK0 hK0' (by omega)).mono ?_
  rintro e w1 ⟨rfl, b1⟩
  go_wp2_with fail
  go_ret
  exact ⟨rfl, hB.trans (b1.mono hB.size)⟩
end Go.Proofs.Ytmbcfijhlpeddaa
/- Entries, where nothing reads or prints them: boxes; Check and Same on both sides. (A copy out of XEnta and XEntq: in a seat with those an overlay stands in.) -/
namespace Go.Proofs.Ytmbcfijhlpeddaa
open Go.ChangeShapes Go.WideShapes Go.ChangeAt Go.RowKit
set_option linter.unusedVariables false
set_option linter.unusedSimpArgs false
theorem bset {w : World} {g o : Nat} {cs : Array Value} {T : TypeId} {fr : Nat × Nat} (h : w.heap[g]? = some (.cells cs T fr)) (v : Value) : (w.setCell ⟨g, o, none⟩ v).heap[g]? = some (.cells (cs.setIfInBounds o v) T fr) := by
  simp [World.setCell, Array.getElem?_modify, h]
/-- A block of five cells, laid. -/
theorem box5 (W : World) (a b k n : Int) (v : Value) (T : TypeId) : ∃ w0 : World, w0 = W.alloc (.cells #[.int .i64 a, .int .i64 b, .int .i64 k, .int .i64 n, v] T) ∧ w0.heap[W.heap.size]? = some (.cells #[.int .i64 a, .int .i64 b, .int .i64 k, .int .i64 n, v] T (0, 0)) ∧ Below W.heap.size W w0 ∧ w0.heap.size = W.heap.size + 1 :=
  ⟨_, rfl, heap_alloc_new _ _, (Below.refl _ _).alloc (Nat.le_refl _) _, by simp⟩
theorem cells5 {w : World} {g : Nat} {a b c d e : Value} {T : TypeId} (h : w.heap[g]? = some (.cells #[a, b, c, d, e] T (0, 0))) : w.cell? ⟨g, 0, none⟩ = some a ∧ w.cell? ⟨g, 1, none⟩ = some b ∧ w.cell? ⟨g, 2, none⟩ = some c ∧ w.cell? ⟨g, 3, none⟩ = some d ∧ w.cell? ⟨g, 4, none⟩ = some e :=
  ⟨by rw [cell_of_row _ _ _ _ _ _ h]; rfl, by rw [cell_of_row _ _ _ _ _ _ h]; rfl, by rw [cell_of_row _ _ _ _ _ _ h]; rfl, by rw [cell_of_row _ _ _ _ _ _ h]; rfl, by rw [cell_of_row _ _ _ _ _ _ h]; rfl⟩
theorem free5 {w : World} {g : Nat} {a b c d e : Value} {T : TypeId} (h : w.heap[g]? = some (.cells #[a, b, c, d, e] T (0, 0))) : w.frozen? ⟨g, 0, none⟩ = false ∧ w.frozen? ⟨g, 1, none⟩ = false ∧ w.frozen? ⟨g, 2, none⟩ = false ∧ w.frozen? ⟨g, 3, none⟩ = false ∧ w.frozen? ⟨g, 4, none⟩ = false :=
  ⟨frozen_of_row _ _ _ _ _ h, frozen_of_row _ _ _ _ _ h, frozen_of_row _ _ _ _ _ h, frozen_of_row _ _ _ _ _ h, frozen_of_row _ _ _ _ _ h⟩
/-- A struct of five cells stored whole. -/
def s5 (w : World) (b : Nat) (x y z u v : Value) : World := ((((w.setCell ⟨b, 0, none⟩ x).setCell ⟨b, 1, none⟩ y).setCell ⟨b, 2, none⟩ z).setCell ⟨b, 3, none⟩ u).setCell ⟨b, 4, none⟩ v
theorem s5_at {w : World} {b : Nat} {x y z u v x0 y0 z0 u0 v0 : Value} {T : TypeId} (h : w.heap[b]? = some (.cells #[x0, y0, z0, u0, v0] T (0, 0))) : (s5 w b x y z u v).heap[b]? = some (.cells #[x, y, z, u, v] T (0, 0)) := by
  unfold s5; rw [bset (bset (bset (bset (bset h _) _) _) _) _]; rfl
theorem s5_below {w : World} {b H : Nat} (x y z u v : Value) (h : H ≤ b) : Below H w (s5 w b x y z u v) := (((((Below.refl _ _).setCell h _).setCell h _).setCell h _).setCell h _).setCell h _
theorem s5_other {w : World} {b i : Nat} (x y z u v : Value) (h : i ≠ b) : (s5 w b x y z u v).heap[i]? = w.heap[i]? := by
  unfold s5; rw [heap_setCell_other _ ⟨b, 4, none⟩ i _ h, heap_setCell_other _ ⟨b, 3, none⟩ i _ h, heap_setCell_other _ ⟨b, 2, none⟩ i _ h, heap_setCell_other _ ⟨b, 1, none⟩ i _ h, heap_setCell_other _ ⟨b, 0, none⟩ i _ h]
theorem s5_size (w : World) (b : Nat) (x y z u v : Value) : (s5 w b x y z u v).heap.size = w.heap.size := by unfold s5; simp
theorem key_eq (a b c d : Int) (u : World) : (binOp .eql 24 (.agg #[.int .i64 a, .int .i64 b]) (.agg #[.int .i64 c, .int .i64 d])).run Try.prog u = .ok (.bool (decide (a = c ∧ b = d))) u := by
  go_simp
  by_cases h1 : a = c <;> by_cases h2 : b = d <;> simp [h1, h2]
set_option maxRecDepth 100000 in
set_option maxHeartbeats 4000000 in
theorem e_check (ks : Fo) (v : Value) (a b k n : Int) (lim : Nat) (W : World) (hN : ks.cnt ≤ 1048576) (hK : Kids W lim v ks) (hl : lim ≤ W.heap.size) (wa : -9223372036854775808 ≤ a ∧ a ≤ 9223372036854775807) (wk : -9223372036854775808 ≤ k ∧ k ≤ 9223372036854775807) (wn : -9223372036854775808 ≤ n ∧ n ≤ 9223372036854775807) (wf : ks.wf) :
    Calls Try.prog 22 #[.agg #[.int .i64 a, .int .i64 b, .int .i64 k, .int .i64 n, v]] W fun e w' => e = .returned (.int .i64 (fori a b n (chkd k n ks))) ∧ Below W.heap.size W w' := by
  obtain ⟨p, m, c, rfl, hc1, hc2, -⟩ := hK.shape
  obtain ⟨w0, hw0, r0, hB0, hs0⟩ := box5 W a b k n (.slice p m c) 36
  have VF := valid_for ks (.slice p m c) a b k n lim w0 hN (hK.below hl hB0) (by omega) wa wk wn wf
  obtain ⟨x0, x1, x2, x3, x4⟩ := cells5 r0
  obtain ⟨z, hz⟩ : ∃ z, fori a b n (chkd k n ks) = z := ⟨_, rfl⟩
  rw [hz] at VF ⊢
  have HW0 := Lib.hid hw0
  clear hK r0 hw0 hz
  go_enter Try.func22, Try.ntmps22
  go_wp2_with fail
  rw [← HW0.out]
  refine VF.mono ?_
  rintro e w1 ⟨rfl, hb1⟩
  go_wp2_with fail
  go_ret
  exact ⟨rfl, hB0.trans (hb1.mono hB0.size)⟩
set_option maxRecDepth 100000 in
set_option maxHeartbeats 4000000 in
theorem r24_check (ks : Fo) (v : Value) (a b k n : Int) (lim : Nat) (W : World) (hN : ks.cnt ≤ 1048576) (hK : Kids W lim v ks) (hl : lim ≤ W.heap.size) (wa : -9223372036854775808 ≤ a ∧ a ≤ 9223372036854775807) (wk : -9223372036854775808 ≤ k ∧ k ≤ 9223372036854775807) (wn : -9223372036854775808 ≤ n ∧ n ≤ 9223372036854775807) (wf : ks.wf) :
    Calls Try.prog 10 #[.agg #[.int .i64 a, .int .i64 b, .int .i64 k, .int .i64 n, v]] W fun e w' => e = .returned (.int .i64 (fori a b n (chkd k n ks))) ∧ Below W.heap.size W w' := by
  obtain ⟨p, m, c, rfl, hc1, hc2, -⟩ := hK.shape
  obtain ⟨w0, hw0, r0, hB0, hs0⟩ := box5 W a b k n (.slice p m c) 36
  have VF := r14_for ks (.slice p m c) a b k n lim w0 hN (hK.below hl hB0) (by omega) wa wk wn wf
  obtain ⟨x0, x1, x2, x3, x4⟩ := cells5 r0
  obtain ⟨z, hz⟩ : ∃ z, fori a b n (chkd k n ks) = z := ⟨_, rfl⟩
  rw [hz] at VF ⊢
  have HW0 := Lib.hid hw0
  clear hK r0 hw0 hz
  go_enter Try.func10, Try.ntmps10
  go_wp2_with fail
  rw [← HW0.out]
  refine VF.mono ?_
  rintro e w1 ⟨rfl, hb1⟩
  go_wp2_with fail
  go_ret
  exact ⟨rfl, hB0.trans (hb1.mono hB0.size)⟩
set_option maxRecDepth 100000 in
set_option maxHeartbeats 4000000 in
/-- Two entries of one key. -/
theorem r24_same1 (ks ks' : Fo) (v v' : Value) (a b k n k' n' : Int) (lim : Nat) (W : World) (hK : Kids W lim v ks) (hK' : Kids W lim v' ks') (hl : lim ≤ W.heap.size) :
    Calls Try.prog 28 #[.agg #[.int .i64 a, .int .i64 b, .int .i64 k, .int .i64 n, v], .agg #[.int .i64 a, .int .i64 b, .int .i64 k', .int .i64 n', v']] W fun e w' => e = .returned (.bool (decide (cmpN k n ks k' n' ks' = 0))) ∧ Below W.heap.size W w' := by
  obtain ⟨p, m, c, rfl, -, -, -⟩ := hK.shape
  obtain ⟨p', m', c', rfl, -, -, -⟩ := hK'.shape
  obtain ⟨w0, hw0, r0, hB0, hs0⟩ := box5 W a b k n (.slice p m c) 36
  obtain ⟨w1, hw1, r1, hB1, hs1⟩ := box5 w0 a b k' n' (.slice p' m' c') 36
  have r0 := (hB1.block _ (by omega)).trans r0
  rw [hs0] at r1
  have hB := hB0.trans (hB1.mono hB0.size)
  have HW1 := Lib.hid (show (W.alloc (.cells #[.int .i64 a, .int .i64 b, .int .i64 k, .int .i64 n, .slice p m c] 36)).alloc (.cells #[.int .i64 a, .int .i64 b, .int .i64 k', .int .i64 n', .slice p' m' c'] 36) = w1 by rw [hw1, hw0])
  have SM := r13_same ks ks' (.slice p m c) (.slice p' m' c') k n k' n' lim w1 (hK.below hl hB) (hK'.below hl hB) (by omega)
  obtain ⟨x0, x1, x2, x3, x4⟩ := cells5 r0
  obtain ⟨y0, y1, y2, y3, y4⟩ := cells5 r1
  generalize decide (cmpN k n ks k' n' ks' = 0) = z at *
  have KE := key_eq a b a b
  simp only [and_self, decide_true] at KE
  clear hK hK' r0 r1 hw0 hw1 hB0 hB1 hs0 hs1
  go_enter Try.func28, Try.ntmps28
  go_upto_region 1 with fail
  rw [HW1.out]
  go_wp2_with fail
  refine SM.mono ?_
  rintro e w2 ⟨rfl, hb2⟩
  go_wp2_with fail
  go_ret
  exact ⟨rfl, hB.trans (hb2.mono hB.size)⟩
set_option maxRecDepth 100000 in
set_option maxHeartbeats 4000000 in
theorem r24_same (ks ks' : Fo) (v v' : Value) (a b k n a' b' k' n' : Int) (lim : Nat) (W : World) (hK : Kids W lim v ks) (hK' : Kids W lim v' ks') (hl : lim ≤ W.heap.size) :
    Calls Try.prog 28 #[.agg #[.int .i64 a, .int .i64 b, .int .i64 k, .int .i64 n, v], .agg #[.int .i64 a', .int .i64 b', .int .i64 k', .int .i64 n', v']] W fun e w' => e = .returned (.bool (decide ((a = a' ∧ b = b') ∧ cmpN k n ks k' n' ks' = 0))) ∧ Below W.heap.size W w' := by
  by_cases hk : a = a' ∧ b = b'
  · obtain ⟨rfl, rfl⟩ := hk
    rw [show decide ((a = a ∧ b = b) ∧ cmpN k n ks k' n' ks' = 0) = decide (cmpN k n ks k' n' ks' = 0) by simp]
    exact r24_same1 ks ks' v v' a b k n k' n' lim W hK hK' hl
  obtain ⟨p, m, c, rfl, -, -, -⟩ := hK.shape
  obtain ⟨p', m', c', rfl, -, -, -⟩ := hK'.shape
  obtain ⟨w0, hw0, r0, hB0, hs0⟩ := box5 W a b k n (.slice p m c) 36
  obtain ⟨w1, hw1, r1, hB1, hs1⟩ := box5 w0 a' b' k' n' (.slice p' m' c') 36
  have r0 := (hB1.block _ (by omega)).trans r0
  rw [hs0] at r1
  have hB := hB0.trans (hB1.mono hB0.size)
  have HW1 := Lib.hid (show (W.alloc (.cells #[.int .i64 a, .int .i64 b, .int .i64 k, .int .i64 n, .slice p m c] 36)).alloc (.cells #[.int .i64 a', .int .i64 b', .int .i64 k', .int .i64 n', .slice p' m' c'] 36) = w1 by rw [hw1, hw0])
  obtain ⟨x0, x1, x2, x3, x4⟩ := cells5 r0
  obtain ⟨y0, y1, y2, y3, y4⟩ := cells5 r1
  rw [decide_eq_false (show ¬ ((a = a' ∧ b = b') ∧ cmpN k n ks k' n' ks' = 0) from fun h => hk h.1)]
  have KE := key_eq a b a' b'
  rw [decide_eq_false hk] at KE
  clear hK hK' r0 r1 hw0 hw1 hB0 hB1 hs0 hs1 hk
  go_enter Try.func28, Try.ntmps28
  go_upto_region 1 with fail
  rw [HW1.out]
  go_wp2_with fail
  go_ret
  exact ⟨rfl, hB⟩
end Go.Proofs.Ytmbcfijhlpeddaa
