/- slim.Even; the reference's. By program (genslf.py). -/
import Derived.Test.YthnpbfboedgmpaaSle
import Derived.Test.YthnpbfboedgmpaaGate
namespace Go.Proofs.Ythnpbfboedgmpaa
open Go.ChangeShapes Go.WideShapes Go.ChangeAt Go.RowKit
set_option linter.unusedVariables false
set_option linter.unusedSimpArgs false
/-- Each client in turn. -/
def evL (n k : Nat) : List Int := (List.range k).map (fun i => ((i % n : Nat) : Int))
theorem evL_len (n k : Nat) : (evL n k).length = k := by unfold evL; simp
theorem evL_succ (n k : Nat) : evL n (k + 1) = evL n k ++ [((k % n : Nat) : Int)] := by unfold evL; rw [List.range_succ, List.map_append]; rfl
theorem evL_wf (n k : Nat) (hn : n ≤ 2000000) (hk : k ≤ 2000000) : ∀ x ∈ evL n k, i64r x := by
  intro x hx
  obtain ⟨i, hi, rfl⟩ := List.mem_map.1 hx
  have h1 := List.mem_range.1 hi
  have h2 := Nat.mod_le i n
  exact ⟨by omega, by omega⟩
theorem quoW (n : Nat) : wrap64 ((4096 : Int).tdiv (n : Int)) = (4096 : Int).tdiv (n : Int) := by
  have e : (4096 : Int).tdiv (n : Int) = ((4096 / n : Nat) : Int) := by rw [show (4096 : Int) = ((4096 : Nat) : Int) from rfl, ← Int.ofNat_tdiv]
  have h := Nat.div_le_self 4096 n
  rw [e]
  generalize 4096 / n = m at h ⊢
  simp only [wrap64]; omega
/-- While picks are put on. -/
structure EvS (W w : World) (st rm : Int) (cp tp : Option Addr) (cn ck tn tk n k : Nat) : Prop where
  ex : ∃ p c, w.heap[W.heap.size]? = some (.cells #[.int .i64 st, .int .i64 rm, .slice cp cn ck, .slice p k c, .slice tp tn tk] 25 (0, 0)) ∧ Owns w (W.heap.size + 2) 3 .i64 (.slice p k c) (evL n k)
  z : w.heap[W.heap.size + 1]? = some (.cells #[.int .i64 0, .int .i64 0, .slice none 0 0, .slice none 0 0, .slice none 0 0] 25 (0, 0))
  b : Below W.heap.size W w
  sz : W.heap.size + 2 ≤ w.heap.size
theorem EvS.step {W D w5 : World} {st rm : Int} {cp tp : Option Addr} {cn ck tn tk n k : Nat} {p : Option Addr} {c : Nat} {p5 : Option Addr} {k5 : Nat}
    (hx : D.heap[W.heap.size]? = some (.cells #[.int .i64 st, .int .i64 rm, .slice cp cn ck, .slice p k c, .slice tp tn tk] 25 (0, 0))) (h5 : Below (W.heap.size + 2) D w5) (ho : Owns w5 (W.heap.size + 2) 3 .i64 (.slice p5 (k + 1) k5) (evL n (k + 1)))
    (hz : D.heap[W.heap.size + 1]? = some (.cells #[.int .i64 0, .int .i64 0, .slice none 0 0, .slice none 0 0, .slice none 0 0] 25 (0, 0))) (hb : Below W.heap.size W D) (hs : W.heap.size + 2 ≤ D.heap.size) : EvS W (w5.setCell ⟨W.heap.size, 3, none⟩ (.slice p5 (k + 1) k5)) st rm cp tp cn ck tn tk n (k + 1) := by
  refine ⟨⟨p5, k5, ?_, own_setB ho (by omega) _⟩, ?_, (hb.trans (h5.mono (by omega))).setCell (p := ⟨W.heap.size, 3, none⟩) (Nat.le_refl _) _, by have := h5.size; simp; omega⟩
  · exact slim_head_box ((h5.block W.heap.size (by omega)).trans hx)
  · rw [heap_setCell_other _ _ _ _ (by show W.heap.size + 1 ≠ W.heap.size; omega)]
    exact (h5.block (W.heap.size + 1) (by omega)).trans hz
def ScrE (W : World) (st rm : Int) (cs : List (List Cl)) (ps ts : List Int) (e : Ending) (w' : World) : Prop :=
  ∃ c k pp pk tp tk, e = .returned (.tuple #[.agg #[.int .i64 st, .int .i64 rm, .slice c cs.length k, .slice pp ps.length pk, .slice tp ts.length tk], .int .i64 0]) ∧ RKK (fun t => W.heap.size ≤ t) w' (.slice c cs.length k) cs ∧ PK (fun t => W.heap.size ≤ t) w' (.slice pp ps.length pk) ps ∧ PK (fun t => W.heap.size ≤ t) w' (.slice tp ts.length tk) ts ∧ Below W.heap.size W w'
theorem even_ret {fn : Func} {p q : Tmp} (h : fn.results = #[.cell p 25, .tmp q]) (a : Act) (w : World) (g : Nat) (x0 x1 x2 x3 x4 x : Value) (hp : a.tmps.getD p undef = .pointer (some ⟨g, 0, none⟩)) (hq : a.tmps.getD q undef = x) (hd : a.defers = [])
    (hg : w.heap[g]? = some (.cells #[x0, x1, x2, x3, x4] 25 (0, 0))) {Q : Ending → World → Prop} (hQ : Q (.returned (.tuple #[.agg #[x0, x1, x2, x3, x4], x])) w) :
    bodyPost Try.prog fn Q .ret a w :=
  bodyPost_ret (sc_res2 h _ _ g 25 _ (0, 0) _ _ hp hq hg Try.underlying25 rfl (by kernel_rfl)) hd hQ
def zeroP : Value := .agg #[.int .i64 0, .int .i64 0, .slice none 0 0, .slice none 0 0, .slice none 0 0]
set_option maxRecDepth 100000 in
set_option maxHeartbeats 8000000 in
theorem slim_even_neg (st rm : Int) (cp pp tp : Option Addr) (ck pk tk : Nat) (cs : List (List Cl)) (ps ts : List Int) (r : Int) (W : World) (hr : r < 0) : Calls Try.prog 11 #[.agg #[.int .i64 st, .int .i64 rm, .slice cp cs.length ck, .slice pp ps.length pk, .slice tp ts.length tk], .int .i64 r] W fun e w' => e = .returned (.tuple #[zeroP, .int .i64 2]) ∧ Below W.heap.size W w' := by
  obtain ⟨w0, hw0, r0, hB0, hs0⟩ := boxG W #[.int .i64 st, .int .i64 rm, .slice cp cs.length ck, .slice pp ps.length pk, .slice tp ts.length tk] 25
  obtain ⟨w1, hw1, r1, hB1, hs1⟩ := boxG w0 #[.int .i64 0, .int .i64 0, .slice none 0 0, .slice none 0 0, .slice none 0 0] 25
  rw [hs0] at r1
  have HB1 := Lib.hid (hB0.trans (hB1.mono hB0.size))
  obtain ⟨m0, m1, m2, m3, m4⟩ := sc_cells5 r1
  obtain ⟨f0, f1, f2, f3, f4⟩ := frz5 r1
  have HR := Lib.hid r1
  clear r0 r1 hB0 hB1
  unfold zeroP
  go_enter Try.func11, Try.ntmps11
  go_wp2_with fail
  refine even_ret rfl _ _ (W.heap.size + 1) (.int .i64 0) (.int .i64 0) (.slice none 0 0) (.slice none 0 0) (.slice none 0 0) (.int .i64 2) rfl rfl rfl (s5_row HR.out) ?_
  exact ⟨rfl, s5_below HB1.out (Nat.le_succ _)⟩
set_option maxRecDepth 100000 in
set_option maxHeartbeats 8000000 in
theorem slim_even_big (st rm : Int) (cp pp tp : Option Addr) (ck pk tk : Nat) (cs : List (List Cl)) (ps ts : List Int) (r : Int) (W : World) (hr : ¬ r < 0) (hn : 0 < cs.length) (hq : (4096 : Int).tdiv (cs.length : Int) < r) (hcn : cs.length ≤ 2000000) : Calls Try.prog 11 #[.agg #[.int .i64 st, .int .i64 rm, .slice cp cs.length ck, .slice pp ps.length pk, .slice tp ts.length tk], .int .i64 r] W fun e w' => e = .returned (.tuple #[zeroP, .int .i64 12]) ∧ Below W.heap.size W w' := by
  obtain ⟨w0, hw0, r0, hB0, hs0⟩ := boxG W #[.int .i64 st, .int .i64 rm, .slice cp cs.length ck, .slice pp ps.length pk, .slice tp ts.length tk] 25
  obtain ⟨w1, hw1, r1, hB1, hs1⟩ := boxG w0 #[.int .i64 0, .int .i64 0, .slice none 0 0, .slice none 0 0, .slice none 0 0] 25
  rw [hs0] at r1
  have HB1 := Lib.hid (hB0.trans (hB1.mono hB0.size))
  obtain ⟨q0, q1, q2, q3, q4⟩ := sc_cells5 ((hB1.block W.heap.size (by omega)).trans r0)
  obtain ⟨m0, m1, m2, m3, m4⟩ := sc_cells5 r1
  obtain ⟨f0, f1, f2, f3, f4⟩ := frz5 r1
  have HR := Lib.hid r1
  have hni : (0 : Int) < (cs.length : Int) := by omega
  have hn0 : ¬ (cs.length : Int) = 0 := by omega
  have wq := quoW cs.length
  obtain ⟨Q, hQ⟩ : ∃ Q : Int, (4096 : Int).tdiv (cs.length : Int) = Q := ⟨_, rfl⟩
  rw [hQ] at hq wq
  clear r0 r1 hB0 hB1 hcn
  unfold zeroP
  go_enter Try.func11, Try.ntmps11
  go_wp2_with fail
  refine even_ret rfl _ _ (W.heap.size + 1) (.int .i64 0) (.int .i64 0) (.slice none 0 0) (.slice none 0 0) (.slice none 0 0) (.int .i64 12) rfl rfl rfl (s5_row HR.out) ?_
  exact ⟨rfl, s5_below HB1.out (Nat.le_succ _)⟩
set_option maxRecDepth 100000 in
set_option maxHeartbeats 16000000 in
theorem slim_even (st rm : Int) (cp pp tp : Option Addr) (ck pk tk : Nat) (cs : List (List Cl)) (ps ts : List Int) (r : Nat) (W : World) (hC : RowCC W (.slice cp cs.length ck) cs) (hT : RowI W tp ts.length ts) (hs : Sml cs ps ts) (hr : (r : Int) ≤ 9223372036854775807) (hq : cs.length = 0 ∨ (r : Int) ≤ (4096 : Int).tdiv (cs.length : Int)) :
    Calls Try.prog 11 #[.agg #[.int .i64 st, .int .i64 rm, .slice cp cs.length ck, .slice pp ps.length pk, .slice tp ts.length tk], .int .i64 (r : Int)] W (ScrE W st rm cs (evL cs.length (cs.length * r)) ts) := by
  have hN4 : cs.length * r ≤ 4096 := by
    rcases hq with h0 | h1
    · rw [h0, Nat.zero_mul]; omega
    · by_cases h0 : cs.length = 0
      · rw [h0, Nat.zero_mul]; omega
      · have e : (4096 : Int).tdiv (cs.length : Int) = ((4096 / cs.length : Nat) : Int) := by rw [show (4096 : Int) = ((4096 : Nat) : Int) from rfl, ← Int.ofNat_tdiv]
        have h2 : r ≤ 4096 / cs.length := by omega
        have h3 := Nat.mul_le_mul_left cs.length h2
        have h4 := Nat.mul_div_le 4096 cs.length
        omega
  obtain ⟨N, hN⟩ : ∃ N, cs.length * r = N := ⟨_, rfl⟩
  have hmul : (cs.length : Int) * (r : Int) = (N : Int) := by rw [← hN]; simp
  have WN := Lib.hid (show wrap64 ((cs.length : Int) * (r : Int)) = (N : Int) by rw [hmul]; simp only [wrap64]; omega)
  have HNN := Lib.hid hN4
  rw [hN] at hN4 HNN ⊢
  have HPOS := Lib.hid (show 0 < N → 0 < cs.length from fun h => Nat.pos_of_ne_zero (fun e => by rw [e, Nat.zero_mul] at hN; omega))
  have hcase : (cs.length = 0) ∨ (0 < cs.length ∧ ∃ Q : Int, (4096 : Int).tdiv (cs.length : Int) = Q ∧ wrap64 Q = Q ∧ ¬ Q < (r : Int)) := by
    by_cases h0 : cs.length = 0
    · exact .inl h0
    · exact .inr ⟨by omega, _, rfl, quoW _, by omega⟩
  obtain ⟨w0, hw0, r0, hB0, hs0⟩ := boxG W #[.int .i64 st, .int .i64 rm, .slice cp cs.length ck, .slice pp ps.length pk, .slice tp ts.length tk] 25
  obtain ⟨w1, hw1, r1, hB1, hs1⟩ := boxG w0 #[.int .i64 0, .int .i64 0, .slice none 0 0, .slice none 0 0, .slice none 0 0] 25
  rw [hs0] at r1
  have HB1 := Lib.hid (hB0.trans (hB1.mono hB0.size))
  have b0 := (hB1.block W.heap.size (by omega)).trans r0
  obtain ⟨m0, m1, m2, m3, m4⟩ := sc_cells5 b0
  obtain ⟨f0, f1, f2, f3, f4⟩ := frz5 b0
  have HE0 := Lib.hid (show EvS W (w1.setCell ⟨W.heap.size, 3, none⟩ (.slice none 0 0)) st rm cp tp cs.length ck ts.length tk cs.length 0 from
    ⟨⟨none, 0, slim_head_box b0, Owns.nil _ _ _ _⟩, by rw [heap_setCell_other _ _ _ _ (by show W.heap.size + 1 ≠ W.heap.size; omega)]; exact r1, HB1.out.setCell (p := ⟨W.heap.size, 3, none⟩) (Nat.le_refl _) _, by simp; omega⟩)
  have HC := Lib.hid hC
  have HT := Lib.hid hT
  have HS := Lib.hid hs
  have hrn : ¬ (r : Int) < 0 := by omega
  clear r0 r1 hB0 hB1 hC hT hs hN hmul hq b0 hN4 hr
  have hpre : ∀ (P : Prop), ((cs.length = 0 → P) ∧ (0 < cs.length → P)) → P := fun P h => by
    by_cases h0 : cs.length = 0
    · exact h.1 h0
    · exact h.2 (by omega)
  clear hpre
  rcases hcase with h0 | ⟨hn, Q, hQ, wq, hqr⟩
  · have hni : ¬ (0 : Int) < (cs.length : Int) := by omega
    clear h0
    go_enter Try.func11, Try.ntmps11
    go_upto_region 8 with fail
    rw [WN.out]
    clear m0 m1 m2 m3 m4 f0 f1 f2 f3 f4 hrn hni
    go_loopw [7, 27] (fun _ j wr => ∃ k : Nat, j = .int .i64 k ∧ Hid (k ≤ N) ∧ Hid (EvS W wr st rm cp tp cs.length ck ts.length tk cs.length k)) (fun _ j _ => N - (intOf j).toNat)
    case atStart => exact ⟨0, rfl, Lib.hid (Nat.zero_le _), HE0⟩
    case round =>
      obtain ⟨k, rfl, HK, HE⟩ := hrel
      obtain ⟨x1, rfl⟩ : ∃ w, w = wr := ⟨_, rfl⟩
      obtain ⟨⟨p, c, hbx, hown⟩, hbz, hbw, hbs⟩ := HE.out
      by_cases hk : k < N
      · have hki : (k : Int) < (N : Int) := by omega
        have HKN := Lib.hid hk
        have WK := Lib.hid (show wrap64 ((k : Int) + 1) = ((k + 1 : Nat) : Int) by have := HNN.out; simp only [wrap64]; omega)
        have hn0 : ¬ (cs.length : Int) = 0 := by have := HPOS.out (by omega); omega
        have hcne : ¬ cs = [] := fun e => by rw [e] at hn0; exact hn0 rfl
        obtain ⟨y, hy⟩ : ∃ y, k % cs.length = y := ⟨_, rfl⟩
        have hrem : (k : Int).tmod (cs.length : Int) = (y : Int) := by rw [← Int.ofNat_tmod, hy]
        have HY := Lib.hid hy
        clear hk hy
        go_upto_region 10 with fail
        obtain ⟨D, hD⟩ : ∃ D, x1.drew = D := ⟨_, rfl⟩
        have HBX := Lib.hid (show D.heap[W.heap.size]? = some (.cells #[.int .i64 st, .int .i64 rm, .slice cp cs.length ck, .slice p k c, .slice tp ts.length tk] 25 (0, 0)) from by rw [← hD]; exact hbx)
        have HBZ := Lib.hid (show D.heap[W.heap.size + 1]? = some (.cells #[.int .i64 0, .int .i64 0, .slice none 0 0, .slice none 0 0, .slice none 0 0] 25 (0, 0)) from by rw [← hD]; exact hbz)
        have HBW := Lib.hid (show Below W.heap.size W D from by rw [← hD]; exact hbw.drew)
        have HBD := Lib.hid (show W.heap.size + 2 ≤ D.heap.size from by rw [← hD]; exact hbs)
        have HO := Lib.hid (show Owns D (W.heap.size + 2) 3 .i64 (.slice p k c) (evL cs.length k) from by rw [← hD]; exact hown.below ((Below.refl _ _).drew))
        obtain ⟨SS, hSS⟩ : ∃ SS : World → Prop, SS = fun w' => w'.cell? ⟨W.heap.size, 3, none⟩ = some (.slice p k c) := ⟨_, rfl⟩
        have H0 := Lib.hid (show SS D by rw [hSS]; exact (sc_cells5 HBX.out).2.2.2.1)
        have HSS := Lib.hid (show ∀ w, SS w → w.cell? ⟨W.heap.size, 3, none⟩ = some (.slice p k c) from fun w hw => by rw [hSS] at hw; exact hw)
        have HSK := Lib.hid (show ∀ w', Below (W.heap.size + 2) D w' → SS w' from fun w' hb => by rw [hSS]; exact (hb.cell (p := ⟨W.heap.size, 3, none⟩) (by show W.heap.size < _; omega)).trans (HSS.out _ H0.out))
        clear hbx hown hbz hbw hbs hSS
        refine region_gate SS 8 (by kernel_rfl) (by rw [hD]; exact H0.out) (fun hHeld => ?_)
        rw [hD] at hHeld ⊢
        clear hD
        refine gate_take (i := 0) (v := ?v1) rfl (by kernel_rfl) (by kernel_rfl) (by kernel_rfl) (by kernel_rfl) (by kernel_rfl) (fun _ _ _ h => h) (Or.inl ⟨by kernel_rfl, ?hy1⟩) (by assumption) ?rest1
        case hy1 => intro w hSw; (try dsimp only at hSw); have hS3 := HSS.out w hSw; go_simp; (first | done | with_reducible rfl)
        (try simp only [Act.put, List.getElem_toArray, List.getElem_cons_zero, List.getElem_cons_succ, List.setIfInBounds_toArray, List.set_cons_zero, List.set_cons_succ])
        refine gate_take (i := 1) (v := ?v2) rfl (by kernel_rfl) (by kernel_rfl) (by kernel_rfl) (by kernel_rfl) (by kernel_rfl) (fun _ _ _ h => h) (Or.inl ⟨by kernel_rfl, ?hy2⟩) (by assumption) ?rest2
        case hy2 => intro w hSw; (try dsimp only at hSw); have hS3 := HSS.out w hSw; go_simp; (first | done | with_reducible rfl)
        (try simp only [Act.put, List.getElem_toArray, List.getElem_cons_zero, List.getElem_cons_succ, List.setIfInBounds_toArray, List.set_cons_zero, List.set_cons_succ])
        refine gate_take (i := 2) (v := ?v3) rfl (by kernel_rfl) (by kernel_rfl) (by kernel_rfl) (by kernel_rfl) (by kernel_rfl) (fun _ _ _ h => h) (Or.inl ⟨by kernel_rfl, ?hy3⟩) (by assumption) ?rest3
        case hy3 => intro w hSw; (try dsimp only at hSw); have hS3 := HSS.out w hSw; go_simp; (first | done | with_reducible rfl)
        (try simp only [Act.put, List.getElem_toArray, List.getElem_cons_zero, List.getElem_cons_succ, List.setIfInBounds_toArray, List.set_cons_zero, List.set_cons_succ])
        refine gate_take (i := 3) (v := ?v4) rfl (by kernel_rfl) (by kernel_rfl) (by kernel_rfl) (by kernel_rfl) (by kernel_rfl) (fun _ _ _ h => h) (Or.inl ⟨by kernel_rfl, ?hy4⟩) (by assumption) ?rest4
        case hy4 => intro w hSw; (try dsimp only at hSw); have hS3 := HSS.out w hSw; go_simp; (first | done | with_reducible rfl)
        (try simp only [Act.put, List.getElem_toArray, List.getElem_cons_zero, List.getElem_cons_succ, List.setIfInBounds_toArray, List.set_cons_zero, List.set_cons_succ])
        refine gate_take (i := 4) (v := ?v5) rfl (by kernel_rfl) (by kernel_rfl) (by kernel_rfl) (by kernel_rfl) (by kernel_rfl) (fun _ _ _ h => h) (Or.inl ⟨by kernel_rfl, ?hy5⟩) (by assumption) ?rest5
        case hy5 => intro w hSw; (try dsimp only at hSw); have hS3 := HSS.out w hSw; go_simp; (first | done | with_reducible rfl)
        (try simp only [Act.put, List.getElem_toArray, List.getElem_cons_zero, List.getElem_cons_succ, List.setIfInBounds_toArray, List.set_cons_zero, List.set_cons_succ])
        refine gate_one (i := 5) rfl (by kernel_rfl) (fun K hK => ?_)
        obtain ⟨D1, hD1, r1, hb1, hs1⟩ := boxG D #[.int .i64 (y : Int)] 3
        have HO1 := Lib.hid (HO.out.below hb1)
        have hcy : D1.cell? ⟨D.heap.size, 0, none⟩ = some (.int .i64 (y : Int)) := by rw [cell_of_row _ _ _ _ _ _ r1]; rfl
        go_simp
        (try rw [hD1])
        refine hK.out _ _ (HSK.out _ (hb1.mono HBD.out)) (fun hHeld2 => ?_)
        clear hK K hHeld
        have hHeld := hHeld2
        clear hHeld2
        (try simp only [Act.put, List.getElem_toArray, List.getElem_cons_zero, List.getElem_cons_succ, List.setIfInBounds_toArray, List.set_cons_zero, List.set_cons_succ])
        have hsz : W.heap.size + 2 ≤ D1.heap.size := Nat.le_trans HBD.out hb1.size
        have hkn : (evL cs.length k).length < 17592186044415 := by rw [evL_len]; have := HKN.out; have := HNN.out; omega
        refine gate_one (i := 6) rfl (by kernel_rfl) (fun K hK => ?_)
        rw [if_pos (by kernel_rfl)]
        refine wp_append_one (T := 23) (E := 3) (k := .i64) (B := W.heap.size + 2) (H := D.heap.size) (ys := evL cs.length k) (y := (y : Int)) Try.underlying23 info_i64c _ _ rfl rfl HO1.out rfl hcy hsz hkn ?_
        intro v5 w5 hO5 hb5
        have HO5 := Lib.hid (show Owns w5 (W.heap.size + 2) 3 .i64 v5 (evL cs.length (k + 1)) by rw [evL_succ, HY.out]; exact hO5)
        have HB5 := Lib.hid ((hb1.mono HBD.out).trans hb5)
        clear hO5 hb5 hcy hD1 r1 hb1 hs1 hsz hkn
        refine hK.out _ _ (HSK.out _ HB5.out) (fun hHeld2 => ?_)
        clear hK K hHeld
        have hHeld := hHeld2
        clear hHeld2
        (try simp only [Act.put, List.getElem_toArray, List.getElem_cons_zero, List.getElem_cons_succ, List.setIfInBounds_toArray, List.set_cons_zero, List.set_cons_succ])
        refine gate_take (i := 7) (v := ?v6) rfl (by kernel_rfl) (by kernel_rfl) (by kernel_rfl) (by kernel_rfl) (by kernel_rfl) (fun _ _ _ h => h) (Or.inl ⟨by kernel_rfl, ?hy6⟩) (by assumption) ?rest6
        case hy6 => intro w hSw; (try dsimp only at hSw); have hS3 := HSS.out w hSw; go_simp; (first | done | with_reducible rfl)
        (try simp only [Act.put, List.getElem_toArray, List.getElem_cons_zero, List.getElem_cons_succ, List.setIfInBounds_toArray, List.set_cons_zero, List.set_cons_succ])
        obtain ⟨p5, k5, e5, -⟩ := HO5.out.shape
        rw [evL_len] at e5
        subst e5
        have hc5 := HSS.out _ hHeld
        have hf5 : w5.frozen? ⟨W.heap.size, 3, none⟩ = false := frozen_of_row _ _ _ _ _ ((HB5.out.block W.heap.size (by omega)).trans HBX.out)
        refine gate_past (i := 8) rfl (by kernel_rfl) (by kernel_rfl) (fun K hK => ?_)
        go_simp
        refine hK.out _ _ ?_
        clear hK K hc5 hf5
        (try simp only [Act.put, List.getElem_toArray, List.getElem_cons_zero, List.getElem_cons_succ, List.setIfInBounds_toArray, List.set_cons_zero, List.set_cons_succ])
        refine gate_done (by kernel_rfl) ?_ _
        have HES := Lib.hid (EvS.step HBX.out HB5.out HO5.out HBZ.out HBW.out HBD.out)
        go_wp2_with fail
        go_roundw
        case rel => exact ⟨k + 1, by first | rw [WK.out] | simp, Lib.hid HKN.out, HES⟩
        case measure => first | (rw [WK.out]; have := HKN.out; simp only [intOf]; omega) | (have := HKN.out; simp only [intOf]; omega)
      · have h9 : k = N := by have := HK.out; omega
        subst h9
        have hki : ¬ (k : Int) < (k : Int) := by omega
        have hlen := evL_len cs.length k
        have HRI := Lib.hid (show RowI x1 p (evL cs.length k).length (evL cs.length k) from by
          have h1 := pk_own hown (evL_wf cs.length k (by have := HS.out.c; omega) (by have := HNN.out; omega)) (by rw [hlen]; have := HNN.out; omega)
          obtain ⟨p', c', e, hr, -⟩ := h1
          simp only [Value.slice.injEq] at e
          obtain ⟨rfl, -, -⟩ := e
          exact hr)
        have CN := slim_clone st rm cp p tp ck c tk cs (evL cs.length k) ts x1 (HC.out.below hbw) HRI.out (HT.out.below hbw) ⟨HS.out.c, HS.out.l, HS.out.x, by rw [hlen]; have := HNN.out; omega, HS.out.t⟩
        rw [hlen] at CN
        have CN := Lib.hid CN
        obtain ⟨m0, m1, m2, m3, m4⟩ := sc_cells5 hbx
        have HBZ := Lib.hid hbz
        have HBW := Lib.hid hbw
        have HBS := Lib.hid hbs
        have HLEN := Lib.hid hlen
        clear hbx hown hbz hbw hbs hk hlen
        go_wp2_with fail
        refine CN.out.mono ?_
        rintro e x3 ⟨c3, k3, p3, j3, t3, l3, rfl, hk, hp, ht, hb⟩
        rw [HLEN.out] at hp ⊢
        have q1 : x3.heap[W.heap.size + 1]? = _ := (hb.block (W.heap.size + 1) (by have := HBS.out; omega)).trans HBZ.out
        obtain ⟨n0, n1, n2, n3, n4⟩ := sc_cells5 q1
        obtain ⟨g0, g1, g2, g3, g4⟩ := frz5 q1
        have HQ1 := Lib.hid q1
        have HFIN := Lib.hid (And.intro hk (And.intro hp (And.intro ht hb)))
        clear hk hp ht hb q1 m0 m1 m2 m3 m4
        go_wp2_with fail
        refine even_ret rfl _ _ (W.heap.size + 1) (.int .i64 st) (.int .i64 rm) (.slice c3 cs.length k3) (.slice p3 k j3) (.slice t3 ts.length l3) (.int .i64 0) rfl rfl rfl (s5_row HQ1.out) ?_
        have hz := HBS.out
        have hn : ¬ (x1.heap.size ≤ W.heap.size + 1) := by omega
        have hM : ∀ (w : World) (t : Nat), t < w.heap.size → x1.heap.size ≤ t → W.heap.size ≤ t := fun w t _ ht => by omega
        refine ⟨c3, k3, p3, j3, t3, l3, by rw [HLEN.out], (HFIN.out.1.keep (s5_exL hn)).mono (hM _), ?_, (HFIN.out.2.2.1.keep (s5_exL hn)).mono (hM _), s5_below (HBW.out.trans (HFIN.out.2.2.2.mono (by omega))) (Nat.le_succ _)⟩
        rw [HLEN.out]
        exact (HFIN.out.2.1.keep (s5_exL hn)).mono (hM _)
  · have hni : (0 : Int) < (cs.length : Int) := by omega
    have hn00 : ¬ (cs.length : Int) = 0 := by omega
    go_enter Try.func11, Try.ntmps11
    go_upto_region 8 with fail
    rw [WN.out]
    clear m0 m1 m2 m3 m4 f0 f1 f2 f3 f4 hrn hni hn hQ wq hqr hn00
    go_loopw [7, 27] (fun _ j wr => ∃ k : Nat, j = .int .i64 k ∧ Hid (k ≤ N) ∧ Hid (EvS W wr st rm cp tp cs.length ck ts.length tk cs.length k)) (fun _ j _ => N - (intOf j).toNat)
    case atStart => exact ⟨0, rfl, Lib.hid (Nat.zero_le _), HE0⟩
    case round =>
      obtain ⟨k, rfl, HK, HE⟩ := hrel
      obtain ⟨x1, rfl⟩ : ∃ w, w = wr := ⟨_, rfl⟩
      obtain ⟨⟨p, c, hbx, hown⟩, hbz, hbw, hbs⟩ := HE.out
      by_cases hk : k < N
      · have hki : (k : Int) < (N : Int) := by omega
        have HKN := Lib.hid hk
        have WK := Lib.hid (show wrap64 ((k : Int) + 1) = ((k + 1 : Nat) : Int) by have := HNN.out; simp only [wrap64]; omega)
        have hn0 : ¬ (cs.length : Int) = 0 := by have := HPOS.out (by omega); omega
        have hcne : ¬ cs = [] := fun e => by rw [e] at hn0; exact hn0 rfl
        obtain ⟨y, hy⟩ : ∃ y, k % cs.length = y := ⟨_, rfl⟩
        have hrem : (k : Int).tmod (cs.length : Int) = (y : Int) := by rw [← Int.ofNat_tmod, hy]
        have HY := Lib.hid hy
        clear hk hy
        go_upto_region 10 with fail
        obtain ⟨D, hD⟩ : ∃ D, x1.drew = D := ⟨_, rfl⟩
        have HBX := Lib.hid (show D.heap[W.heap.size]? = some (.cells #[.int .i64 st, .int .i64 rm, .slice cp cs.length ck, .slice p k c, .slice tp ts.length tk] 25 (0, 0)) from by rw [← hD]; exact hbx)
        have HBZ := Lib.hid (show D.heap[W.heap.size + 1]? = some (.cells #[.int .i64 0, .int .i64 0, .slice none 0 0, .slice none 0 0, .slice none 0 0] 25 (0, 0)) from by rw [← hD]; exact hbz)
        have HBW := Lib.hid (show Below W.heap.size W D from by rw [← hD]; exact hbw.drew)
        have HBD := Lib.hid (show W.heap.size + 2 ≤ D.heap.size from by rw [← hD]; exact hbs)
        have HO := Lib.hid (show Owns D (W.heap.size + 2) 3 .i64 (.slice p k c) (evL cs.length k) from by rw [← hD]; exact hown.below ((Below.refl _ _).drew))
        obtain ⟨SS, hSS⟩ : ∃ SS : World → Prop, SS = fun w' => w'.cell? ⟨W.heap.size, 3, none⟩ = some (.slice p k c) := ⟨_, rfl⟩
        have H0 := Lib.hid (show SS D by rw [hSS]; exact (sc_cells5 HBX.out).2.2.2.1)
        have HSS := Lib.hid (show ∀ w, SS w → w.cell? ⟨W.heap.size, 3, none⟩ = some (.slice p k c) from fun w hw => by rw [hSS] at hw; exact hw)
        have HSK := Lib.hid (show ∀ w', Below (W.heap.size + 2) D w' → SS w' from fun w' hb => by rw [hSS]; exact (hb.cell (p := ⟨W.heap.size, 3, none⟩) (by show W.heap.size < _; omega)).trans (HSS.out _ H0.out))
        clear hbx hown hbz hbw hbs hSS
        refine region_gate SS 8 (by kernel_rfl) (by rw [hD]; exact H0.out) (fun hHeld => ?_)
        rw [hD] at hHeld ⊢
        clear hD
        refine gate_take (i := 0) (v := ?v7) rfl (by kernel_rfl) (by kernel_rfl) (by kernel_rfl) (by kernel_rfl) (by kernel_rfl) (fun _ _ _ h => h) (Or.inl ⟨by kernel_rfl, ?hy7⟩) (by assumption) ?rest7
        case hy7 => intro w hSw; (try dsimp only at hSw); have hS3 := HSS.out w hSw; go_simp; (first | done | with_reducible rfl)
        (try simp only [Act.put, List.getElem_toArray, List.getElem_cons_zero, List.getElem_cons_succ, List.setIfInBounds_toArray, List.set_cons_zero, List.set_cons_succ])
        refine gate_take (i := 1) (v := ?v8) rfl (by kernel_rfl) (by kernel_rfl) (by kernel_rfl) (by kernel_rfl) (by kernel_rfl) (fun _ _ _ h => h) (Or.inl ⟨by kernel_rfl, ?hy8⟩) (by assumption) ?rest8
        case hy8 => intro w hSw; (try dsimp only at hSw); have hS3 := HSS.out w hSw; go_simp; (first | done | with_reducible rfl)
        (try simp only [Act.put, List.getElem_toArray, List.getElem_cons_zero, List.getElem_cons_succ, List.setIfInBounds_toArray, List.set_cons_zero, List.set_cons_succ])
        refine gate_take (i := 2) (v := ?v9) rfl (by kernel_rfl) (by kernel_rfl) (by kernel_rfl) (by kernel_rfl) (by kernel_rfl) (fun _ _ _ h => h) (Or.inl ⟨by kernel_rfl, ?hy9⟩) (by assumption) ?rest9
        case hy9 => intro w hSw; (try dsimp only at hSw); have hS3 := HSS.out w hSw; go_simp; (first | done | with_reducible rfl)
        (try simp only [Act.put, List.getElem_toArray, List.getElem_cons_zero, List.getElem_cons_succ, List.setIfInBounds_toArray, List.set_cons_zero, List.set_cons_succ])
        refine gate_take (i := 3) (v := ?v10) rfl (by kernel_rfl) (by kernel_rfl) (by kernel_rfl) (by kernel_rfl) (by kernel_rfl) (fun _ _ _ h => h) (Or.inl ⟨by kernel_rfl, ?hy10⟩) (by assumption) ?rest10
        case hy10 => intro w hSw; (try dsimp only at hSw); have hS3 := HSS.out w hSw; go_simp; (first | done | with_reducible rfl)
        (try simp only [Act.put, List.getElem_toArray, List.getElem_cons_zero, List.getElem_cons_succ, List.setIfInBounds_toArray, List.set_cons_zero, List.set_cons_succ])
        refine gate_take (i := 4) (v := ?v11) rfl (by kernel_rfl) (by kernel_rfl) (by kernel_rfl) (by kernel_rfl) (by kernel_rfl) (fun _ _ _ h => h) (Or.inl ⟨by kernel_rfl, ?hy11⟩) (by assumption) ?rest11
        case hy11 => intro w hSw; (try dsimp only at hSw); have hS3 := HSS.out w hSw; go_simp; (first | done | with_reducible rfl)
        (try simp only [Act.put, List.getElem_toArray, List.getElem_cons_zero, List.getElem_cons_succ, List.setIfInBounds_toArray, List.set_cons_zero, List.set_cons_succ])
        refine gate_one (i := 5) rfl (by kernel_rfl) (fun K hK => ?_)
        obtain ⟨D1, hD1, r1, hb1, hs1⟩ := boxG D #[.int .i64 (y : Int)] 3
        have HO1 := Lib.hid (HO.out.below hb1)
        have hcy : D1.cell? ⟨D.heap.size, 0, none⟩ = some (.int .i64 (y : Int)) := by rw [cell_of_row _ _ _ _ _ _ r1]; rfl
        go_simp
        (try rw [hD1])
        refine hK.out _ _ (HSK.out _ (hb1.mono HBD.out)) (fun hHeld2 => ?_)
        clear hK K hHeld
        have hHeld := hHeld2
        clear hHeld2
        (try simp only [Act.put, List.getElem_toArray, List.getElem_cons_zero, List.getElem_cons_succ, List.setIfInBounds_toArray, List.set_cons_zero, List.set_cons_succ])
        have hsz : W.heap.size + 2 ≤ D1.heap.size := Nat.le_trans HBD.out hb1.size
        have hkn : (evL cs.length k).length < 17592186044415 := by rw [evL_len]; have := HKN.out; have := HNN.out; omega
        refine gate_one (i := 6) rfl (by kernel_rfl) (fun K hK => ?_)
        rw [if_pos (by kernel_rfl)]
        refine wp_append_one (T := 23) (E := 3) (k := .i64) (B := W.heap.size + 2) (H := D.heap.size) (ys := evL cs.length k) (y := (y : Int)) Try.underlying23 info_i64c _ _ rfl rfl HO1.out rfl hcy hsz hkn ?_
        intro v5 w5 hO5 hb5
        have HO5 := Lib.hid (show Owns w5 (W.heap.size + 2) 3 .i64 v5 (evL cs.length (k + 1)) by rw [evL_succ, HY.out]; exact hO5)
        have HB5 := Lib.hid ((hb1.mono HBD.out).trans hb5)
        clear hO5 hb5 hcy hD1 r1 hb1 hs1 hsz hkn
        refine hK.out _ _ (HSK.out _ HB5.out) (fun hHeld2 => ?_)
        clear hK K hHeld
        have hHeld := hHeld2
        clear hHeld2
        (try simp only [Act.put, List.getElem_toArray, List.getElem_cons_zero, List.getElem_cons_succ, List.setIfInBounds_toArray, List.set_cons_zero, List.set_cons_succ])
        refine gate_take (i := 7) (v := ?v12) rfl (by kernel_rfl) (by kernel_rfl) (by kernel_rfl) (by kernel_rfl) (by kernel_rfl) (fun _ _ _ h => h) (Or.inl ⟨by kernel_rfl, ?hy12⟩) (by assumption) ?rest12
        case hy12 => intro w hSw; (try dsimp only at hSw); have hS3 := HSS.out w hSw; go_simp; (first | done | with_reducible rfl)
        (try simp only [Act.put, List.getElem_toArray, List.getElem_cons_zero, List.getElem_cons_succ, List.setIfInBounds_toArray, List.set_cons_zero, List.set_cons_succ])
        obtain ⟨p5, k5, e5, -⟩ := HO5.out.shape
        rw [evL_len] at e5
        subst e5
        have hc5 := HSS.out _ hHeld
        have hf5 : w5.frozen? ⟨W.heap.size, 3, none⟩ = false := frozen_of_row _ _ _ _ _ ((HB5.out.block W.heap.size (by omega)).trans HBX.out)
        refine gate_past (i := 8) rfl (by kernel_rfl) (by kernel_rfl) (fun K hK => ?_)
        go_simp
        refine hK.out _ _ ?_
        clear hK K hc5 hf5
        (try simp only [Act.put, List.getElem_toArray, List.getElem_cons_zero, List.getElem_cons_succ, List.setIfInBounds_toArray, List.set_cons_zero, List.set_cons_succ])
        refine gate_done (by kernel_rfl) ?_ _
        have HES := Lib.hid (EvS.step HBX.out HB5.out HO5.out HBZ.out HBW.out HBD.out)
        go_wp2_with fail
        go_roundw
        case rel => exact ⟨k + 1, by first | rw [WK.out] | simp, Lib.hid HKN.out, HES⟩
        case measure => first | (rw [WK.out]; have := HKN.out; simp only [intOf]; omega) | (have := HKN.out; simp only [intOf]; omega)
      · have h9 : k = N := by have := HK.out; omega
        subst h9
        have hki : ¬ (k : Int) < (k : Int) := by omega
        have hlen := evL_len cs.length k
        have HRI := Lib.hid (show RowI x1 p (evL cs.length k).length (evL cs.length k) from by
          have h1 := pk_own hown (evL_wf cs.length k (by have := HS.out.c; omega) (by have := HNN.out; omega)) (by rw [hlen]; have := HNN.out; omega)
          obtain ⟨p', c', e, hr, -⟩ := h1
          simp only [Value.slice.injEq] at e
          obtain ⟨rfl, -, -⟩ := e
          exact hr)
        have CN := slim_clone st rm cp p tp ck c tk cs (evL cs.length k) ts x1 (HC.out.below hbw) HRI.out (HT.out.below hbw) ⟨HS.out.c, HS.out.l, HS.out.x, by rw [hlen]; have := HNN.out; omega, HS.out.t⟩
        rw [hlen] at CN
        have CN := Lib.hid CN
        obtain ⟨m0, m1, m2, m3, m4⟩ := sc_cells5 hbx
        have HBZ := Lib.hid hbz
        have HBW := Lib.hid hbw
        have HBS := Lib.hid hbs
        have HLEN := Lib.hid hlen
        clear hbx hown hbz hbw hbs hk hlen
        go_wp2_with fail
        refine CN.out.mono ?_
        rintro e x3 ⟨c3, k3, p3, j3, t3, l3, rfl, hk, hp, ht, hb⟩
        rw [HLEN.out] at hp ⊢
        have q1 : x3.heap[W.heap.size + 1]? = _ := (hb.block (W.heap.size + 1) (by have := HBS.out; omega)).trans HBZ.out
        obtain ⟨n0, n1, n2, n3, n4⟩ := sc_cells5 q1
        obtain ⟨g0, g1, g2, g3, g4⟩ := frz5 q1
        have HQ1 := Lib.hid q1
        have HFIN := Lib.hid (And.intro hk (And.intro hp (And.intro ht hb)))
        clear hk hp ht hb q1 m0 m1 m2 m3 m4
        go_wp2_with fail
        refine even_ret rfl _ _ (W.heap.size + 1) (.int .i64 st) (.int .i64 rm) (.slice c3 cs.length k3) (.slice p3 k j3) (.slice t3 ts.length l3) (.int .i64 0) rfl rfl rfl (s5_row HQ1.out) ?_
        have hz := HBS.out
        have hn : ¬ (x1.heap.size ≤ W.heap.size + 1) := by omega
        have hM : ∀ (w : World) (t : Nat), t < w.heap.size → x1.heap.size ≤ t → W.heap.size ≤ t := fun w t _ ht => by omega
        refine ⟨c3, k3, p3, j3, t3, l3, by rw [HLEN.out], (HFIN.out.1.keep (s5_exL hn)).mono (hM _), ?_, (HFIN.out.2.2.1.keep (s5_exL hn)).mono (hM _), s5_below (HBW.out.trans (HFIN.out.2.2.2.mono (by omega))) (Nat.le_succ _)⟩
        rw [HLEN.out]
        exact (HFIN.out.2.1.keep (s5_exL hn)).mono (hM _)
set_option maxRecDepth 100000 in
set_option maxHeartbeats 8000000 in
theorem r46_even (n r : Nat) (W : World) (hn : n ≤ 2000000) (hb : n * r ≤ 4096) (hr : r ≤ 4096) :
    Calls Try.prog 13 #[.int .i64 (n : Int), .int .i64 (r : Int)] W fun e w' => ∃ v', e = .returned v' ∧ PK (fun t => W.heap.size ≤ t) w' v' (evL n (n * r)) ∧ Below W.heap.size W w' := by
  have HN := Lib.hid (And.intro hn (And.intro hb hr))
  clear hn hb hr
  go_enter Try.func13, Try.ntmps13
  go_wp2_with fail
  go_loopw [5, 6, 7] (fun u j _ wr => ∃ q : Nat, j = .int .i64 q ∧ Hid (q ≤ r) ∧ Hid (Owns wr W.heap.size 3 .i64 u (evL n (n * q))) ∧ Hid (Below W.heap.size W wr)) (fun _ j _ _ => r - (intOf j).toNat)
  case atStart => exact ⟨0, rfl, Lib.hid (Nat.zero_le _), Lib.hid (by rw [Nat.mul_zero]; exact Owns.nil _ _ _ _), Lib.hid (Below.refl _ _)⟩
  case round =>
    obtain ⟨q, rfl, HQ, HO, HB⟩ := hrel
    obtain ⟨x1, rfl⟩ : ∃ w, w = wr := ⟨_, rfl⟩
    by_cases hq : q < r
    · have hqi : (q : Int) < (r : Int) := by omega
      have HQL := Lib.hid hq
      obtain ⟨a, ha⟩ : ∃ a, n * q = a := ⟨_, rfl⟩
      have HA := Lib.hid ha
      have HO0 := Lib.hid (show Owns x1 W.heap.size 3 .i64 _ (evL n (a + 0)) by rw [← ha]; exact HO.out)
      have HAB := Lib.hid (show a + n ≤ 4096 by
        have h1 := Nat.mul_le_mul_left n (show q + 1 ≤ r by omega)
        have h2 := HN.out.2.1
        rw [Nat.mul_succ] at h1
        omega)
      have WQ := Lib.hid (show wrap64 ((q : Int) + 1) = ((q + 1 : Nat) : Int) by have := HN.out.2.2; simp only [wrap64]; omega)
      clear hq ha
      go_wp2_with fail
      go_loopw [5, 7] (fun u i wr => ∃ t : Nat, i = .int .i64 t ∧ Hid (t ≤ n) ∧ Hid (Owns wr W.heap.size 3 .i64 u (evL n (a + t))) ∧ Hid (Below W.heap.size W wr)) (fun _ i _ => n - (intOf i).toNat)
      case atStart => exact ⟨0, rfl, Lib.hid (Nat.zero_le _), HO0, HB⟩
      case round =>
        obtain ⟨t, rfl, HTT, HO2, HB2⟩ := hrel
        obtain ⟨x2, rfl⟩ : ∃ w, w = wr := ⟨_, rfl⟩
        by_cases ht : t < n
        · have hti : (t : Int) < (n : Int) := by omega
          have HTL := Lib.hid ht
          have WT := Lib.hid (show wrap64 ((t : Int) + 1) = ((t + 1 : Nat) : Int) by have := HN.out.1; simp only [wrap64]; omega)
          have HS := Lib.hid (show evL n (a + (t + 1)) = evL n (a + t) ++ [(t : Int)] by
            have e : a + (t + 1) = a + t + 1 := by omega
            have e2 : (a + t) % n = t := by rw [← HA.out, Nat.mul_add_mod]; exact Nat.mod_eq_of_lt ht
            rw [e, evL_succ, e2])
          have hsz := HB2.out.size
          have hkn : (evL n (a + t)).length < 17592186044415 := by rw [evL_len]; have := HAB.out; omega
          clear ht
          go_wp2_with (at_builtin; (refine append_one (T := 23) (E := 3) (k := .i64) (B := W.heap.size) (ys := evL n (a + t)) (y := (t : Int)) Try.underlying23 info_i64c rfl _ _ rfl rfl HO2.out rfl hsz hkn ?_); intro v4 x4 hO4 hb4; have HO4 := Lib.hid (show Owns x4 W.heap.size 3 .i64 v4 (evL n (a + (t + 1))) by rw [HS.out]; exact hO4); have HB4 := Lib.hid (HB2.out.trans hb4); clear hO4 hb4)
          go_roundw
          case rel => exact ⟨t + 1, by first | rw [WT.out] | simp, Lib.hid HTL.out, HO4, HB4⟩
          case measure => first | (rw [WT.out]; have := HTL.out; simp only [intOf]; omega) | (have := HTL.out; simp only [intOf]; omega)
        · have h9 : t = n := by have := HTT.out; omega
          subst h9
          have hti : ¬ (t : Int) < (t : Int) := by omega
          have HOF := Lib.hid (show Owns x2 W.heap.size 3 .i64 _ (evL t (t * (q + 1))) by rw [Nat.mul_succ, HA.out]; exact HO2.out)
          clear ht
          go_wp2_with fail
          go_roundw
          case rel => exact ⟨q + 1, by first | rw [WQ.out] | simp, Lib.hid HQL.out, HOF, HB2⟩
          case measure => first | (rw [WQ.out]; have := HQL.out; simp only [intOf]; omega) | (have := HQL.out; simp only [intOf]; omega)
    · have h9 : q = r := by have := HQ.out; omega
      subst h9
      have hqi : ¬ (q : Int) < (q : Int) := by omega
      clear hq
      have HP := Lib.hid (pk_own HO.out (evL_wf n (n * q) HN.out.1 (by have := HN.out.2.1; omega)) (by rw [evL_len]; have := HN.out.2.1; omega))
      go_wp2_with fail
      go_ret
      exact ⟨_, rfl, HP.out, HB.out⟩
end Go.Proofs.Ythnpbfboedgmpaa
