/- Put together by program (merge2.py): Exc Exr Exs Permr Perm9. -/
import Derived.BigQuiet
import Derived.Deep.Cut
import Derived.Deep.AppendSrc
import Derived.Test.YtbhnlfgccldmaaaGreatZd11
import Derived.Test.YtbhnlfgccldmaaaGreatZd13
import Derived.Test.YtbhnlfgccldmaaaGreatZd20
/- Package exec: columns. By program (genexb.py). -/
namespace Go.Proofs.YtbhnlfgccldmaaaGreat
open Go.ChangeShapes Go.WideShapes Go.ChangeAt Go.RowKit
set_option linter.unusedVariables false
set_option linter.unusedSimpArgs false
set_option maxRecDepth 100000 in
set_option maxHeartbeats 16000000 in
theorem exec_columns (G a b : Nat) (k d r : Int) (v : Value) (p : Option Addr) (c : Nat) (xs : List Int) (W : World) (N : Nat) (hN : a * b = N) (hx : Row W p N xs) (hn : N ≤ 16777216) (ha : 1 ≤ a) (hb1 : 1 ≤ b) (hK : RunK W G k a v d r) :
    Calls Tryz.prog 174 #[.agg #[.map (some G)], .agg #[.int .i64 k, .int .i64 a, v], .int .i64 d, .slice p N c, .int .i64 b] W (GivesAt W N (colsl r xs a b)) := by
  obtain ⟨w0, w1, hw0, hw1, hWB, hB, l0, l1⟩ := wb_start W G k a v
  have haN : a ≤ N := hN ▸ Nat.le_mul_of_pos_right a (by omega)
  have hbN : b ≤ N := hN ▸ Nat.le_mul_of_pos_left b (by omega)
  have HAB := Lib.hid hN
  have HS := Lib.hid (show 1 ≤ a ∧ 1 ≤ b ∧ N ≤ 16777216 ∧ a ≤ N ∧ b ≤ N from ⟨ha, hb1, hn, haN, hbN⟩)
  obtain ⟨A, hA⟩ : ∃ A, W.heap.size = A := ⟨_, rfl⟩
  obtain ⟨B, hBB⟩ : ∃ B, w0.heap.size = B := ⟨_, rfl⟩
  obtain ⟨Y, hY⟩ : ∃ Y, w1.heap.size = Y := ⟨_, rfl⟩
  rw [hA] at hWB l1
  rw [hBB] at hWB l0
  rw [hY] at l0 l1
  obtain ⟨w2, hw2⟩ : ∃ w2, w1.alloc (.cells (Array.replicate N (.int .u64 0)) 62) = w2 := ⟨_, rfl⟩
  obtain ⟨w3, hw3⟩ : ∃ w3, w2.alloc (.cells (Array.replicate a (.int .u64 0)) 62) = w3 := ⟨_, rfl⟩
  obtain ⟨cs, hcs⟩ : ∃ cs, colsl r xs a b = cs := ⟨_, rfl⟩
  have H3 := Lib.hid (show RowAt w3 Y 62 (tab N (cvt cs b 0 0)) ∧ RowAt w3 (Y + 1) 62 (List.replicate a 0) ∧ Below Y w1 w3 ∧ w2.heap.size = Y + 1 from by
    have h1 := RowAt.made w1 62 N
    rw [hw2, hY, cvt_start cs N b] at h1
    have h2 := RowAt.made w2 62 a
    have hs : w2.heap.size = Y + 1 := by rw [← hw2, World.size_alloc, hY]
    rw [hw3, hs] at h2
    have b2 : Below w1.heap.size w1 w2 := hw2 ▸ (Below.refl _ _).alloc (Nat.le_refl _) _
    have b3 : Below w2.heap.size w2 w3 := hw3 ▸ (Below.refl _ _).alloc (Nat.le_refl _) _
    rw [hY] at b2
    exact ⟨h1.below b3, h2, b2.trans (b3.mono (by omega)), hs⟩)
  have HWB := Lib.hid hWB
  have HK := Lib.hid (hK.below hB)
  have HX := Lib.hid (hx.below hB)
  have HBW := Lib.hid hB
  have HYW := Lib.hid (show A < Y ∧ B < Y ∧ W.heap.size ≤ Y ∧ Y = w1.heap.size from ⟨l1, l0, by omega, hY.symm⟩)
  have XW := Lib.hid hx.wf
  have HXY := Lib.hid (show ∀ x, p = some x → N ≠ 0 → x.block < Y from fun x hx h0 => by
    obtain ⟨bb, oo, e1, e2, -⟩ := HX.out.cell (k := 0) (by omega)
    rw [e1] at hx; cases hx; exact hY ▸ e2)
  have LX := Lib.hid (fun t (ht : t < N) => HX.out.cell ht)
  have hmkN := make_u64 N (by omega)
  have hmka := make_u64 a (by omega)
  obtain ⟨c0, c1, c2, c3⟩ := hWB.cells
  have c2' : w2.cell? ⟨B, 1, none⟩ = some (.int .i64 a) := by
    have b2 : Below w1.heap.size w1 w2 := hw2 ▸ (Below.refl _ _).alloc (Nat.le_refl _) _
    exact (b2.cell (p := ⟨B, 1, none⟩) (by show B < _; omega)).trans c2
  have CW := Lib.hid (show ∀ z ∈ cs, (Lit.int .u64 z).wf = true from hcs ▸ colsl_wf r xs a b)
  have CL := Lib.hid (show cs.length = N from by rw [← hcs, colsl_len, hN])
  have CE := Lib.hid hcs
  have HW3 := Lib.hid hw3
  have HS2 := Lib.hid H3.out.2.2.2
  rw [hcs]
  clear hcs hN hx hn ha hb1 hK hWB hB l0 l1 haN hbN hw3
  go_enter Tryz.func174, Tryz.ntmps174
  go_wp2_with fail
  rw [HS2.out, HW3.out]
  clear c0 c1 c2 c3 c2' hw0 hw1 hw2 hmkN hmka
  go_loopw [13, 14, 15, 16, 24, 29, 48, 49, 50] (fun _ _ _ _ i _ _ _ _ wr => ∃ (j : Nat) (L : List Int), j ≤ b ∧ i = .int .i64 j ∧ Hid (L.length = a) ∧ Hid (RowAt wr Y 62 (tab N (cvt cs b j 0))) ∧ Hid (RowAt wr (Y + 1) 62 L) ∧ Hid (Below Y w1 wr)) (fun _ _ _ _ i _ _ _ _ _ => b - (intOf i).toNat)
  case atStart => exact ⟨0, _, Nat.zero_le _, rfl, Lib.hid (by simp), Lib.hid H3.out.1, Lib.hid H3.out.2.1, Lib.hid H3.out.2.2.1⟩
  case round =>
    obtain ⟨j, L, hj, rfl, HL, RY, RC, HB⟩ := hrel
    by_cases hjb : j < b
    · have hji : (j : Int) < (b : Int) := by omega
      have WJ := Lib.hid (show wrap64 ((j : Int) + 1) = ((j + 1 : Nat) : Int) by have := HS.out; simp only [wrap64]; omega)
      obtain ⟨wu, rfl⟩ : ∃ wu, wu = wr := ⟨_, rfl⟩
      obtain ⟨vs, hvs⟩ : ∃ vs, coll xs a b j = vs := ⟨_, rfl⟩
      have VW := Lib.hid (show ∀ z ∈ vs, (Lit.int .u64 z).wf = true from hvs ▸ coll_wf XW.out a b j)
      have VL := Lib.hid (show vs.length = a from by rw [← hvs, coll_len])
      have VA := Lib.hid (fun i (hi : i < a) => (show vs.getD i 0 = xs.getD (i * b + j) 0 from by rw [← hvs, coll_at _ _ _ _ _ hi]))
      have VC := Lib.hid (fun i (hi : i < a) => (show (horl r vs a).getD i 0 = cs.getD (i * b + j) 0 from by rw [← CE.out, ← hvs, colsl, gridf_at a b _ hi hjb]))
      clear hvs
      go_wp2_with fail
      go_loopw [14, 29] (fun _ i wr => ∃ t : Nat, t ≤ a ∧ i = .int .i64 t ∧ Hid (RowAt wr Y 62 (tab N (cvt cs b j 0))) ∧ Hid (RowAt wr (Y + 1) 62 (tab a (fillt vs L t))) ∧ Hid (Below Y w1 wr)) (fun _ i _ => a - (intOf i).toNat)
      case atStart => exact ⟨0, Nat.zero_le _, rfl, RY, Lib.hid (by rw [fillt_start vs L a HL.out]; exact RC.out), HB⟩
      case round =>
        clear RY RC HB
        obtain ⟨t, ht, rfl, RY, RC, HB⟩ := hrel
        by_cases hta : t < a
        · have hti : (t : Int) < (a : Int) := by omega
          have htb : t * b + j < N := by rw [← HAB.out]; exact lt_mul hta hjb
          have WT := Lib.hid (show wrap64 ((t : Int) + 1) = ((t + 1 : Nat) : Int) by have := HS.out; simp only [wrap64]; omega)
          obtain ⟨bx, ox, rfl, -, kx, x0, x1⟩ := LX.out _ htb
          have lx : bx < Y := HXY.out _ rfl (by omega)
          have hx3 := (HB.out.cell (p := ⟨bx, ox + (t * b + j), none⟩) lx).trans kx
          rw [← VA.out t hta] at hx3
          have fc := RC.out.free t
          have RC2 := Lib.hid (show RowAt (wr.setCell ⟨Y + 1, t, none⟩ (.int .u64 (vs.getD t 0))) (Y + 1) 62 (tab a (fillt vs L (t + 1))) from by
            have := RC.out.set t (vs.getD t 0)
            rwa [fillt_step] at this)
          have cc := RC.out.cell (k := t) (by rw [tab_len]; exact hta)
          have RY2 := Lib.hid (RY.out.otherB (p := ⟨Y + 1, t, none⟩) (by show Y ≠ Y + 1; omega) (.int .u64 (vs.getD t 0)))
          have HB2 := Lib.hid (HB.out.setCell (p := ⟨Y + 1, t, none⟩) (by show Y ≤ Y + 1; omega) (.int .u64 (vs.getD t 0)))
          have htb2 : t * b ≤ N := by omega
          have w1' := Lib.hid (show wrap64 ((t : Int) * (b : Int)) = ((t * b : Nat) : Int) by rw [← Int.natCast_mul]; have := HS.out; simp only [wrap64]; omega)
          obtain ⟨tb, htb3⟩ : ∃ tb, t * b = tb := ⟨_, rfl⟩
          rw [htb3] at htb hx3 w1' htb2
          have w2h := Lib.hid (show wrap64 ((tb : Int) + (j : Int)) = ((tb + j : Nat) : Int) by have := HS.out; simp only [wrap64]; omega)
          obtain ⟨q, hq⟩ : ∃ q, tb + j = q := ⟨_, rfl⟩
          rw [hq] at htb hx3 w2h
          have hqi : (q : Int) < (N : Int) := by omega
          have lY := RC.out.lt
          obtain ⟨y, hy⟩ : ∃ y, vs.getD t 0 = y := ⟨_, rfl⟩
          rw [hy] at hx3 RC2 RY2 HB2
          clear hq htb3 htb2 hy kx
          have w1o := w1'.out
          have w2o := w2h.out
          go_wp2_with fail
          go_roundw
          case rel => exact ⟨t + 1, by omega, by first | rw [WT.out] | go_num, RY2, RC2, HB2⟩
          case measure => first | (first | (simp [intOf]; done) | (simp [intOf]; omega) | (simp only [intOf]; omega)) | (rw [WT.out]; simp only [intOf]; omega)
        · have hti : ¬ (t : Int) < (a : Int) := by omega
          obtain rfl : t = a := by omega
          have RV := Lib.hid (show RowAt wr (Y + 1) 62 vs from by have := RC.out; rwa [fillt_end vs L t VL.out] at this)
          have KR := Lib.hid (HK.out wr (HYW.out.2.2.2 ▸ HB.out) (some ⟨Y + 1, 0, none⟩) t vs (Row.of_at RV.out VW.out VL.out (by have := HS.out; omega)))
          obtain ⟨m0, m1, m2, m3⟩ := (HWB.out.belowY HB.out HYW.out.1 HYW.out.2.1).cells
          obtain ⟨hs, hhs⟩ : ∃ hs, horl r vs t = hs := ⟨_, rfl⟩
          rw [hhs] at KR VC
          clear hhs hta RC
          go_wp2_with fail
          refine KR.out.mono ?_
          rintro e w5 ⟨q, e5, rfl, hr5, hn5, hb5⟩
          have HR5 := Lib.hid hr5
          have HN5 := Lib.hid hn5
          have RV5 := Lib.hid (RV.out.below hb5)
          have RY5 := Lib.hid (RY.out.below hb5)
          have HB5 := Lib.hid (HB.out.trans (hb5.mono (Nat.le_of_lt RY.out.lt)))
          have LYr := Lib.hid (show Y < wr.heap.size from RY.out.lt)
          have L5 := Lib.hid (fun i (hi : i < t) => hr5.cell hi)
          have LY5 := Lib.hid (show wr.heap.size ≤ w5.heap.size from hb5.size)
          clear hr5 hn5 hb5 m0 m1 m2 m3 KR RY
          go_wp2_with fail
          go_loopw [15, 16, 50] (fun _ _ i wr => ∃ s : Nat, s ≤ t ∧ i = .int .i64 s ∧ Hid (RowAt wr Y 62 (tab N (cvt cs b j s))) ∧ Hid (RowAt wr (Y + 1) 62 vs) ∧ Hid (Below Y w1 wr) ∧ Hid (But w5 wr Y)) (fun _ _ i _ => t - (intOf i).toNat)
          case atStart => exact ⟨0, Nat.zero_le _, rfl, RY5, RV5, HB5, Lib.hid (But.refl _ _)⟩
          case round =>
            obtain ⟨s, hs', rfl, RY6, RV6, HB6, BU6⟩ := hrel
            obtain ⟨w6, rfl⟩ : ∃ w6, w6 = wr := ⟨_, rfl⟩
            by_cases hst : s < t
            · have hsi : (s : Int) < (t : Int) := by omega
              have WS := Lib.hid (show wrap64 ((s : Int) + 1) = ((s + 1 : Nat) : Int) by have := HS.out; simp only [wrap64]; omega)
              obtain ⟨bq, oq, rfl, lq, kq, -, -⟩ := L5.out s hst
              have hbq : wr.heap.size ≤ bq := HN5.out _ rfl
              have hq6 : w6.cell? ⟨bq, oq + s, none⟩ = some (.int .u64 (cs.getD (s * b + j) 0)) := by
                have h1 := BU6.out.o bq lq (by have := LYr.out; have := hbq; omega)
                unfold World.cell? at kq ⊢
                rw [h1]
                rw [← VC.out s hst]
                exact kq
              have hsb : s * b + j < N := by rw [← HAB.out]; exact lt_mul hst hjb
              have fy := RY6.out.free (s * b + j)
              have cy := RY6.out.cell (k := s * b + j) (by rw [tab_len]; exact hsb)
              have RY7 := Lib.hid (show RowAt (w6.setCell ⟨Y, s * b + j, none⟩ (.int .u64 (cs.getD (s * b + j) 0))) Y 62 (tab N (cvt cs b j (s + 1))) from by
                have := RY6.out.set (s * b + j) (cs.getD (s * b + j) 0)
                rwa [cvt_step _ _ _ _ _ hjb] at this)
              have RV7 := Lib.hid (RV6.out.otherB (p := ⟨Y, s * b + j, none⟩) (by show Y + 1 ≠ Y; omega) (.int .u64 (cs.getD (s * b + j) 0)))
              have HB7 := Lib.hid (HB6.out.setCell (p := ⟨Y, s * b + j, none⟩) (Nat.le_refl _) (.int .u64 (cs.getD (s * b + j) 0)))
              have BU7 := Lib.hid (BU6.out.trans (But.set w6 Y (s * b + j) (.int .u64 (cs.getD (s * b + j) 0))))
              have lY := RY6.out.lt
              have lq6 : bq < w6.heap.size := Nat.lt_of_lt_of_le lq BU6.out.z
              obtain ⟨tb, htb3⟩ : ∃ tb, s * b = tb := ⟨_, rfl⟩
              have w1h := Lib.hid (show wrap64 ((s : Int) * (b : Int)) = (tb : Int) by rw [← Int.natCast_mul, htb3]; have := HS.out; simp only [wrap64]; omega)
              rw [htb3] at hsb hq6 RY7 RV7 HB7 BU7 fy cy
              obtain ⟨q2, hq2⟩ : ∃ q2, tb + j = q2 := ⟨_, rfl⟩
              have w2h := Lib.hid (show wrap64 ((tb : Int) + (j : Int)) = (q2 : Int) by have := HS.out; simp only [wrap64]; omega)
              rw [hq2] at hsb hq6 RY7 RV7 HB7 BU7 fy cy
              have hqi : (q2 : Int) < (N : Int) := by omega
              obtain ⟨y, hy⟩ : ∃ y, cs.getD q2 0 = y := ⟨_, rfl⟩
              rw [hy] at hq6 RY7 RV7 HB7 BU7
              clear hy hq2 htb3 kq hbq lq
              have w1o := w1h.out
              have w2o := w2h.out
              go_wp2_with fail
              go_roundw
              case rel => exact ⟨s + 1, by omega, by first | rw [WS.out] | go_num, RY7, RV7, HB7, BU7⟩
              case measure => first | (first | (simp [intOf]; done) | (simp [intOf]; omega) | (simp only [intOf]; omega)) | (rw [WS.out]; simp only [intOf]; omega)
            · have hsi : ¬ (s : Int) < (t : Int) := by omega
              obtain rfl : s = t := by omega
              have RY8 := Lib.hid (show RowAt w6 Y 62 (tab N (cvt cs b (j + 1) 0)) from by have := RY6.out; rw [← HAB.out] at this ⊢; rwa [cvt_row] at this)
              clear hst
              go_wp2_with fail
              go_roundw
              case rel => exact ⟨j + 1, vs, by omega, by first | rw [WJ.out] | go_num, VL, RY8, RV6, HB6⟩
              case measure => first | (first | (simp [intOf]; done) | (simp [intOf]; omega) | (simp only [intOf]; omega)) | (rw [WJ.out]; simp only [intOf]; omega)
    · have hji : ¬ (j : Int) < (b : Int) := by omega
      obtain rfl : j = b := by omega
      have RE := Lib.hid (show RowAt wr Y 62 cs from by have := RY.out; rwa [cvt_end _ _ _ (by have := HS.out; omega) CL.out] at this)
      go_wp2_with fail
      go_ret
      exact ⟨Y, rfl, RE.out, HYW.out.2.2.1, HBW.out.trans (HB.out.mono HYW.out.2.2.1)⟩
end Go.Proofs.YtbhnlfgccldmaaaGreat
/- Package exec: rows. By program (genexr.py). -/
namespace Go.Proofs.YtbhnlfgccldmaaaGreat
open Go.ChangeShapes Go.WideShapes Go.ChangeAt Go.RowKit
set_option linter.unusedVariables false
set_option linter.unusedSimpArgs false
/-- 'append' of a row of words onto an own row, at the operation. -/
theorem wp_append_u64 {o : Oper} {a : Act} {K : Act → World → Prop} {Q : Exit → Act → World → Prop} {W : World} {B : Nat} {v : Value} {ys zs : List Int} {p : Option Addr} {m c : Nat} (s x : Operand)
    (ho : o.op = .call { callee := .builtin .append, args := #[s, x], argTypes := #[25, 25] }) (hs : a.eval s = v) (hown : Owns W B 62 .u64 v ys) (hx : a.eval x = .slice p m c) (hm : zs.length = m) (hr : Reads .u64 W p zs) (hB : B ≤ W.heap.size) (hlen : ys.length + m ≤ 1000000000000) (hne : 0 < m)
    (h : ∀ v' w', Owns w' B 62 .u64 v' (ys ++ zs) → Below B W w' → K (a.put o.dst v') w') : o.wp Tryz.prog a W K Q := by
  obtain ⟨i0, hi, hz0, hz1, hz2⟩ := info_parts info_u64
  rcases hr with hnil | ⟨b, off, rfl, hb, hcell⟩
  · rw [hnil] at hm; simp at hm; omega
  refine wp_append_lies _ s x 25 ho B 62 i0 (.int .u64 0) 1 8 Tryz.underlying25 hi hz0 hz1 hz2 rfl (by decide) v ys.length (ys.map (Value.int .u64)) hs hown ⟨b, off, none⟩ m c (zs.map (Value.int .u64)) hx (by simpa using hm) ?_ ?_ hne ?_ ?_ hB _ rfl ?_
  · intro j u hj
    have hj' : j < zs.length := by
      by_cases hlt : j < zs.length
      · exact hlt
      · have : (zs.map (Value.int .u64))[j]? = none := by simp; omega
        rw [this] at hj; cases hj
    have e : (zs.map (Value.int .u64))[j]? = some (.int .u64 (zs.getD j 0)) := by simp [List.getD, hj']
    rw [e] at hj
    cases hj
    have hadd : (⟨b, off, none⟩ : Addr).add j = ⟨b, off + j, none⟩ := by unfold Addr.add; split <;> simp_all
    rw [hadd]
    exact hcell j hj'
  · intro u hu
    obtain ⟨z, _, rfl⟩ := List.mem_map.1 hu
    rfl
  · unfold maxLen; omega
  · omega
  · intro g cap w' h1 h2 _ _
    refine h _ w' ?_ ((Below.refl _ _).grown h2 hB (fun i hi => (World.ownsRow.lt hown i hi).1))
    unfold Owns
    rw [List.length_append, List.map_append, hm]
    exact h1
theorem make_u64_0 (n : Nat) (hn : n ≤ 16777216) (w : World) :
    (Instr.makeSlice 25 (.int .i64 0) (.int .i64 (n : Int))).run Tryz.prog w = .ok (.slice (some ⟨w.heap.size, 0, none⟩) 0 n) (w.alloc (.cells (Array.replicate n (.int .u64 0)) 62)) := by
  obtain ⟨i, hi, hz, hs, hb⟩ := info_parts info_u64
  rw [run_make w 25 62 i (.int .u64 0) Tryz.underlying25 hi hz .i64 .i64 0 (n : Int) (by omega) (by omega) (by rw [hb]; omega) (by omega), hs, Int.toNat_natCast, Nat.mul_one]
  rw [show (Value.int .u64 0).cells = #[.int .u64 0] from rfl, made_cells]
  first | rfl | simp
theorem owns_made0 (w : World) (n : Nat) (hn : n ≤ 16777216) : Owns (w.alloc (.cells (Array.replicate n (.int .u64 0)) 62)) w.heap.size 62 .u64 (.slice (some ⟨w.heap.size, 0, none⟩) 0 n) [] :=
  ⟨by simp, .inr ⟨w.heap.size, n, _, rfl, Nat.le_refl _, heap_alloc_new _ _, Nat.zero_le _, by unfold maxLen; omega, by simp, by simp⟩⟩
theorem row_part {w : World} {X N b i : Nat} {xs : List Int} (h : RowAt w X 62 xs) (hl : xs.length = N) (hw : ∀ x ∈ xs, (Lit.int .u64 x).wf = true) (hi : i * b + b ≤ N) (hN : N ≤ 16777216) : Row w (some ⟨X, i * b, none⟩) b (partl xs b i) := by
  refine ⟨partl_len _ _ _, ?_, partl_wf hw b i, by omega⟩
  refine .inr ⟨X, i * b, rfl, h.lt, fun j hj => ?_⟩
  rw [partl_len] at hj
  rw [partl_at _ _ _ _ hj]
  exact h.cell (k := i * b + j) (by omega)
theorem rowsl_take {r : Int} (xs : List Int) {a b i : Nat} (hi : i < a) : (rowsl r xs a b).take (i * b) ++ horl r (partl xs b i) b = (rowsl r xs a b).take ((i + 1) * b) := by
  have h1 : (i + 1) * b ≤ a * b := Nat.mul_le_mul_right b hi
  have h2 : (i + 1) * b = i * b + b := by rw [Nat.add_mul, Nat.one_mul]
  apply getD_ext
  · rw [List.length_append, List.length_take, List.length_take, rowsl_len, horl_len]; omega
  · intro t ht
    rw [List.length_append, List.length_take, rowsl_len, horl_len] at ht
    have ht2 : t < i * b + b := by omega
    rw [List.getD_eq_getElem?_getD, List.getD_eq_getElem?_getD, List.getElem?_take, if_pos (by omega)]
    by_cases h : t < i * b
    · rw [List.getElem?_append_left (by rw [List.length_take, rowsl_len]; omega), List.getElem?_take, if_pos h]
    · rw [List.getElem?_append_right (by rw [List.length_take, rowsl_len]; omega), List.length_take, rowsl_len]
      have hj : t - i * b < b := by omega
      have hm : min (i * b) (a * b) = i * b := by omega
      rw [hm, ← List.getD_eq_getElem?_getD, ← List.getD_eq_getElem?_getD]
      have := gridf_at a b (fun i j => (horl r (partl xs b i) b).getD j 0) hi hj
      rw [show i * b + (t - i * b) = t by omega] at this
      rw [rowsl, this]
set_option maxRecDepth 100000 in
set_option maxHeartbeats 16000000 in
theorem exec_rows (G a b : Nat) (k d r : Int) (v : Value) (X : Nat) (xs : List Int) (W : World) (N : Nat) (hN : a * b = N) (hx : RowAt W X 62 xs) (hl : xs.length = N) (hw : ∀ x ∈ xs, (Lit.int .u64 x).wf = true) (hn : N ≤ 16777216) (ha : 1 ≤ a) (hb1 : 1 ≤ b) (hK : RunK W G k b v d r) :
    Calls Tryz.prog 175 #[.agg #[.map (some G)], .agg #[.int .i64 k, .int .i64 b, v], .int .i64 d, .slice (some ⟨X, 0, none⟩) N N] W (GivesNw W N (rowsl r xs a b)) := by
  obtain ⟨w0, w1, hw0, hw1, hWB, hB, l0, l1⟩ := wb_start W G k b v
  have haN : a ≤ N := hN ▸ Nat.le_mul_of_pos_right a (by omega)
  have hbN : b ≤ N := hN ▸ Nat.le_mul_of_pos_left b (by omega)
  have HAB := Lib.hid hN
  have HS := Lib.hid (show 1 ≤ a ∧ 1 ≤ b ∧ N ≤ 16777216 ∧ a ≤ N ∧ b ≤ N from ⟨ha, hb1, hn, haN, hbN⟩)
  obtain ⟨A, hA⟩ : ∃ A, W.heap.size = A := ⟨_, rfl⟩
  obtain ⟨B, hBB⟩ : ∃ B, w0.heap.size = B := ⟨_, rfl⟩
  obtain ⟨Y, hY⟩ : ∃ Y, w1.heap.size = Y := ⟨_, rfl⟩
  rw [hA] at hWB l1
  rw [hBB] at hWB l0
  rw [hY] at l0 l1
  obtain ⟨w2, hw2⟩ : ∃ w2, w1.alloc (.cells (Array.replicate N (.int .u64 0)) 62) = w2 := ⟨_, rfl⟩
  obtain ⟨cs, hcs⟩ : ∃ cs, rowsl r xs a b = cs := ⟨_, rfl⟩
  have H2 := Lib.hid (show Owns w2 Y 62 .u64 (.slice (some ⟨Y, 0, none⟩) 0 N) [] ∧ Below Y w1 w2 from by
    have h1 := owns_made0 w1 N hn
    rw [hw2, hY] at h1
    have b2 : Below w1.heap.size w1 w2 := hw2 ▸ (Below.refl _ _).alloc (Nat.le_refl _) _
    rw [hY] at b2
    exact ⟨h1, b2⟩)
  have HWB := Lib.hid hWB
  have HK := Lib.hid (hK.below hB)
  have HX := Lib.hid (show RowAt w1 X 62 xs from hx.below hB)
  have HBW := Lib.hid hB
  have HYW := Lib.hid (show A < Y ∧ B < Y ∧ W.heap.size ≤ Y ∧ Y = w1.heap.size ∧ X < Y from ⟨l1, l0, by omega, hY.symm, by have := (show RowAt w1 X 62 xs from hx.below hB).lt; omega⟩)
  have HP := Lib.hid (fun (w : World) (h : Below Y w1 w) (i : Nat) (hi : i * b + b ≤ N) => row_part (show RowAt w X 62 xs from (h.block X HYW.out.2.2.2.2).trans HX.out) hl hw hi hn)
  have CW := Lib.hid (show ∀ z ∈ cs, (Lit.int .u64 z).wf = true from hcs ▸ rowsl_wf r xs a b)
  have CL := Lib.hid (show cs.length = N from by rw [← hcs, rowsl_len, hN])
  have CT := Lib.hid (fun i (hi : i < a) => (show cs.take (i * b) ++ horl r (partl xs b i) b = cs.take ((i + 1) * b) from hcs ▸ rowsl_take xs hi))
  have hmk := make_u64_0 N hn
  have HW2 := Lib.hid hw2
  rw [hcs]
  obtain ⟨c0, c1, c2, c3⟩ := hWB.cells
  clear hcs hN hx hl hw hn ha hb1 hK hWB hB l0 l1 haN hbN
  go_enter Tryz.func175, Tryz.ntmps175
  go_wp2_with fail
  clear c0 c1 c2 c3 hw0 hw1 hw2 hmk
  (try rw [HW2.out])
  go_loopw [9, 10] (fun y i wr => ∃ (t : Nat), t ≤ a ∧ i = .int .i64 ((t * b : Nat) : Int) ∧ (∃ q c, y = .slice q (t * b) c) ∧ Hid (Owns wr Y 62 .u64 y (cs.take (t * b))) ∧ Hid (Below Y w1 wr)) (fun _ i _ => N - (intOf i).toNat)
  case atStart => exact ⟨0, Nat.zero_le _, by simp, ⟨some ⟨Y, 0, none⟩, N, by simp⟩, Lib.hid (by simpa using H2.out.1), Lib.hid H2.out.2⟩
  case round =>
    obtain ⟨t, ht, rfl, ⟨q, c, rfl⟩, OY, HB⟩ := hrel
    by_cases hta : t < a
    · have hle := Lib.hid (show (t + 1) * b ≤ N from by rw [← HAB.out]; exact Nat.mul_le_mul_right b hta)
      have hsp := Lib.hid (show (t + 1) * b = t * b + b from by rw [Nat.add_mul, Nat.one_mul])
      have PR := Lib.hid (fun (w : World) (h : Below Y w1 w) => HP.out w h t (by have := hle.out; have := hsp.out; omega))
      have CT2 := Lib.hid (CT.out t hta)
      have CTL := Lib.hid (show (cs.take (t * b)).length = t * b from by rw [List.length_take, CL.out]; have := hle.out; have := hsp.out; omega)
      have TB := Lib.hid (show (((t + 1) * b : Nat) : Int) = ((t * b + b : Nat) : Int) from by rw [hsp.out])
      have NXT := Lib.hid (fun (y : Value) (w : World) (h : Owns w Y 62 .u64 y (cs.take (t * b) ++ horl r (partl xs b t) b)) => (show Owns w Y 62 .u64 y (cs.take ((t + 1) * b)) from by rw [← CT2.out]; exact h))
      obtain ⟨I, hI⟩ : ∃ I, t * b = I := ⟨_, rfl⟩
      rw [hI] at OY CTL PR hsp TB CT2 NXT ⊢
      obtain ⟨vs, hvs⟩ : ∃ vs, partl xs b t = vs := ⟨_, rfl⟩
      rw [hvs] at PR NXT
      obtain ⟨J, hJ⟩ : ∃ J, I + b = J := ⟨_, rfl⟩
      have hJN : J ≤ N := by have := hle.out; have := hsp.out; omega
      have hIJ : I ≤ J := by omega
      have hIN : (I : Int) < (N : Int) := by have := HS.out; omega
      have hJ3 : J - I = b := by omega
      have hNI : ¬ (N = I) := by omega
      have HJ := Lib.hid hJ
      have RJ := Lib.hid (show Value.int .i64 (J : Int) = .int .i64 (((t + 1) * b : Nat) : Int) from by rw [TB.out, hJ])
      have MS := Lib.hid (show N - J < N - I from by have := HS.out; omega)
      have WAi := Lib.hid (show IntKind.i64.wrap ((I : Int) + (b : Int)) = (J : Int) from by rw [IntWalk.i64_in _ (by have := HS.out; omega)]; omega)
      have WAw := Lib.hid (show wrap64 ((I : Int) + (b : Int)) = (J : Int) from by have := HS.out; simp only [wrap64]; omega)
      obtain ⟨m0, m1, m2, m3⟩ := (HWB.out.belowY HB.out HYW.out.1 HYW.out.2.1).cells
      have LYr := Lib.hid (show Y ≤ wr.heap.size from by have := HB.out.size; have := HYW.out; omega)
      have CX := Lib.hid (fun (u : World) (h : Below wr.drew.heap.size wr.drew u) => (show (u.cell? ⟨A, 0, none⟩ = some (.map (some G)) ∧ u.cell? ⟨B, 0, none⟩ = some (.int .i64 k) ∧ u.cell? ⟨B, 1, none⟩ = some (.int .i64 b) ∧ u.cell? ⟨B, 2, none⟩ = some v) ∧ Below Y w1 u from
        ⟨(HWB.out.belowY (HB.out.trans (((Below.refl _ _).drew.trans h).mono LYr.out)) HYW.out.1 HYW.out.2.1).cells, HB.out.trans (((Below.refl _ _).drew.trans h).mono LYr.out)⟩))
      have KR := Lib.hid (fun (u : World) (h : Below wr.drew.heap.size wr.drew u) (cc : Nat) => HK.out u (HYW.out.2.2.2.1 ▸ (CX.out u h).2) (some ⟨X, I, none⟩) cc vs (PR.out u (CX.out u h).2))
      have OU := Lib.hid (fun (u : World) (h : Below wr.drew.heap.size wr.drew u) => (show Owns wr.drew Y 62 .u64 _ _ from OY.out).below h)
      obtain ⟨zs, hzs⟩ : ∃ zs, horl r vs b = zs := ⟨_, rfl⟩
      have ZL := Lib.hid (show zs.length = b from by rw [← hzs, horl_len])
      rw [hzs] at KR NXT
      clear hzs hvs hI hJ
      have w1i := WAi.out
      go_wp2_with fail
      refine wp_region_held_drew (S := (fun w' => Below Y w1 w')) (by kernel_rfl) (HB.out.trans ((Below.refl wr.heap.size wr).drew.mono LYr.out)) (fun hHeld => ?_)
      refine wpAnyH_take (i := 0) (v := ?v1) rfl (by kernel_rfl) (by kernel_rfl) (by kernel_rfl) (fun _ _ _ h => h) (Or.inl ⟨by kernel_rfl, ?hy1⟩) (by assumption) ?rest1
      case hy1 => intro w hSw; clear hSw; go_simp; (first | done | with_reducible rfl)
      (try simp only [Act.put, List.getElem_toArray, List.getElem_cons_zero, List.getElem_cons_succ, List.setIfInBounds_toArray, List.set_cons_zero, List.set_cons_succ])
      refine wpAnyH_take (i := 1) (v := ?v2) rfl (by kernel_rfl) (by kernel_rfl) (by kernel_rfl) (fun _ _ _ h => h) (Or.inl ⟨by kernel_rfl, ?hy2⟩) (by assumption) ?rest2
      case hy2 => intro w hSw; (try dsimp only at hSw); obtain ⟨g0, g1, g2, g3⟩ := (HWB.out.belowY hSw HYW.out.1 HYW.out.2.1).cells; go_simp; (first | done | with_reducible rfl)
      (try simp only [Act.put, List.getElem_toArray, List.getElem_cons_zero, List.getElem_cons_succ, List.setIfInBounds_toArray, List.set_cons_zero, List.set_cons_succ])
      refine wpAnyH_take (i := 2) (v := ?v3) rfl (by kernel_rfl) (by kernel_rfl) (by kernel_rfl) (fun _ _ _ h => h) (Or.inl ⟨by kernel_rfl, ?hy3⟩) (by assumption) ?rest3
      case hy3 => intro w hSw; (try dsimp only at hSw); obtain ⟨g0, g1, g2, g3⟩ := (HWB.out.belowY hSw HYW.out.1 HYW.out.2.1).cells; go_simp; (first | done | with_reducible rfl)
      (try simp only [Act.put, List.getElem_toArray, List.getElem_cons_zero, List.getElem_cons_succ, List.setIfInBounds_toArray, List.set_cons_zero, List.set_cons_succ])
      refine wpAnyH_take (i := 3) (v := ?v4) rfl (by kernel_rfl) (by kernel_rfl) (by kernel_rfl) (fun _ _ _ h => h) (Or.inl ⟨by kernel_rfl, ?hy4⟩) (by assumption) ?rest4
      case hy4 => intro w hSw; clear hSw; go_simp; (first | done | with_reducible rfl)
      (try simp only [Act.put, List.getElem_toArray, List.getElem_cons_zero, List.getElem_cons_succ, List.setIfInBounds_toArray, List.set_cons_zero, List.set_cons_succ])
      refine wpAnyH_take (i := 4) (v := ?v5) rfl (by kernel_rfl) (by kernel_rfl) (by kernel_rfl) (fun _ _ _ h => h) (Or.inl ⟨by kernel_rfl, ?hy5⟩) (by assumption) ?rest5
      case hy5 => intro w hSw; clear hSw; go_simp; (first | done | with_reducible rfl)
      (try simp only [Act.put, List.getElem_toArray, List.getElem_cons_zero, List.getElem_cons_succ, List.setIfInBounds_toArray, List.set_cons_zero, List.set_cons_succ])
      refine wpAnyH_take (i := 5) (v := ?v6) rfl (by kernel_rfl) (by kernel_rfl) (by kernel_rfl) (fun _ _ _ h => h) (Or.inl ⟨by kernel_rfl, ?hy6⟩) (by assumption) ?rest6
      case hy6 => intro w hSw; clear hSw; go_simp; (first | done | with_reducible rfl)
      (try simp only [Act.put, List.getElem_toArray, List.getElem_cons_zero, List.getElem_cons_succ, List.setIfInBounds_toArray, List.set_cons_zero, List.set_cons_succ])
      refine wpAnyH_take (i := 6) (v := ?v7) rfl (by kernel_rfl) (by kernel_rfl) (by kernel_rfl) (fun _ _ _ h => h) (Or.inl ⟨by kernel_rfl, ?hy7⟩) (by assumption) ?rest7
      case hy7 => intro w hSw; clear hSw; go_simp; (first | done | with_reducible rfl)
      (try simp only [Act.put, List.getElem_toArray, List.getElem_cons_zero, List.getElem_cons_succ, List.setIfInBounds_toArray, List.set_cons_zero, List.set_cons_succ])
      refine wpAnyH_take (i := 7) (v := ?v8) rfl (by kernel_rfl) (by kernel_rfl) (by kernel_rfl) (fun _ _ _ h => h) (Or.inl ⟨by kernel_rfl, ?hy8⟩) (by assumption) ?rest8
      case hy8 => intro w hSw; clear hSw; go_simp; (first | done | with_reducible rfl)
      (try simp only [Act.put, List.getElem_toArray, List.getElem_cons_zero, List.getElem_cons_succ, List.setIfInBounds_toArray, List.set_cons_zero, List.set_cons_succ])
      refine wpAnyH_take (i := 8) (v := ?v9) rfl (by kernel_rfl) (by kernel_rfl) (by kernel_rfl) (fun _ _ _ h => h) (Or.inl ⟨by kernel_rfl, ?hy9⟩) (by assumption) ?rest9
      case hy9 => intro w hSw; (try dsimp only at hSw); obtain ⟨g0, g1, g2, g3⟩ := (HWB.out.belowY hSw HYW.out.1 HYW.out.2.1).cells; go_simp; (first | done | with_reducible rfl)
      (try simp only [Act.put, List.getElem_toArray, List.getElem_cons_zero, List.getElem_cons_succ, List.setIfInBounds_toArray, List.set_cons_zero, List.set_cons_succ])
      refine wpAnyH_take (i := 9) (v := ?v10) rfl (by kernel_rfl) (by kernel_rfl) (by kernel_rfl) (fun _ _ _ h => h) (Or.inl ⟨by kernel_rfl, ?hy10⟩) (by assumption) ?rest10
      case hy10 => intro w hSw; clear hSw; go_simp; (first | done | with_reducible rfl)
      (try simp only [Act.put, List.getElem_toArray, List.getElem_cons_zero, List.getElem_cons_succ, List.setIfInBounds_toArray, List.set_cons_zero, List.set_cons_succ])
      refine wpAnyH_take (i := 10) (v := ?v11) rfl (by kernel_rfl) (by kernel_rfl) (by kernel_rfl) (fun _ _ _ h => h) (Or.inl ⟨by kernel_rfl, ?hy11⟩) (by assumption) ?rest11
      case hy11 => intro w hSw; clear hSw; go_simp; (first | done | with_reducible rfl)
      (try simp only [Act.put, List.getElem_toArray, List.getElem_cons_zero, List.getElem_cons_succ, List.setIfInBounds_toArray, List.set_cons_zero, List.set_cons_succ])
      refine wpAnyH_ready (rs := [11]) (by kernel_rfl) (by simp) ?_
      refine AllReadyH.cons rfl (fun K hK => ?_) AllReadyH.nil
      go_simp
      refine (KR.out wr.drew (Below.refl _ _) _).mono ?_
      rintro e u ⟨q5, e5, rfl, hr5, hn5, hb5⟩
      (try go_wp2_with fail)
      refine hK.out _ _ (hHeld.trans (hb5.mono LYr.out)) (fun hHeld2 => ?_)
      clear hK K hHeld
      have hHeld := hHeld2
      clear hHeld2
      (try simp only [Act.put, List.getElem_toArray, List.getElem_cons_zero, List.getElem_cons_succ, List.setIfInBounds_toArray, List.set_cons_zero, List.set_cons_succ])
      refine wpAnyH_ready (rs := [12]) (by kernel_rfl) (by simp) ?_
      refine AllReadyH.cons rfl (fun K hK => ?_) AllReadyH.nil
      refine step_plain rfl (wp_append_u64 _ _ rfl rfl (OU.out u hb5) rfl ZL.out hr5.reads (Nat.le_trans LYr.out hb5.size) (by rw [CTL.out]; have := HS.out; omega) (by have := HS.out; omega) (fun v' w' hO hbw => ?_))
      refine hK.out _ _ (hHeld.trans hbw) (fun hHeld2 => ?_)
      clear hK K hHeld
      have hHeld := hHeld2
      clear hHeld2
      (try simp only [Act.put, List.getElem_toArray, List.getElem_cons_zero, List.getElem_cons_succ, List.setIfInBounds_toArray, List.set_cons_zero, List.set_cons_succ])
      refine wpAnyH_take (i := 13) (v := ?v14) rfl (by kernel_rfl) (by kernel_rfl) (by kernel_rfl) (fun _ _ _ h => h) (Or.inl ⟨by kernel_rfl, ?hy14⟩) (by assumption) ?rest14
      case hy14 => intro w hSw; clear hSw; go_simp; (first | done | with_reducible rfl)
      (try simp only [Act.put, List.getElem_toArray, List.getElem_cons_zero, List.getElem_cons_succ, List.setIfInBounds_toArray, List.set_cons_zero, List.set_cons_succ])
      have HB9 := Lib.hid hHeld
      have NX2 := Lib.hid (NXT.out v' w' hO)
      obtain ⟨qq, cc, rfl, -⟩ := NX2.out.shape
      have VE := Lib.hid (show (Value.slice qq (cs.take ((t + 1) * b)).length cc) = .slice qq ((t + 1) * b) cc from by rw [List.length_take, CL.out, Nat.min_eq_left hle.out])
      obtain ⟨n0, n1, n2, n3⟩ := (HWB.out.belowY HB9.out HYW.out.1 HYW.out.2.1).cells
      clear hr5 hn5 hb5 hHeld hbw hO w1i
      refine wpAnyH_done (by kernel_rfl) ?_ _
      have w1o := WAw.out
      go_wp2_with fail
      go_roundw
      case rel => exact ⟨t + 1, hta, by rw [WAw.out]; exact RJ.out, ⟨_, _, VE.out⟩, NX2, HB9⟩
      case measure =>
        have E : (intOf (Value.int .i64 (J : Int))).toNat = J := by simp [intOf]
        rw [WAw.out, E]
        have E2 : (intOf (Value.int .i64 (I : Int))).toNat = I := by simp [intOf]
        rw [E2]; exact MS.out
    · obtain rfl : t = a := by omega
      have hNN := HAB.out
      have hni : ¬ (N : Int) < (N : Int) := by omega
      rw [HAB.out] at OY ⊢
      have OE := Lib.hid (show Owns wr Y 62 .u64 (.slice q N c) cs from by have := OY.out; rwa [List.take_of_length_le (by rw [CL.out]; exact Nat.le_refl _)] at this)
      clear hNN
      go_wp2_with fail
      go_ret
      obtain ⟨a1, c1, e1, r1, -, n1⟩ := OE.out.shape
      have hv : (Value.slice q N c) = .slice a1 cs.length c1 := e1
      cases hv
      refine ⟨_, _, rfl, ⟨CL.out, r1, CW.out, by have := HS.out; omega⟩, fun x hx => ?_, HBW.out.trans (HB.out.mono HYW.out.2.2.1)⟩
      exact Nat.le_trans HYW.out.2.2.1 (World.ownsRow.lt OE.out x.block (by subst hx; rfl)).1
end Go.Proofs.YtbhnlfgccldmaaaGreat
/- Package exec: split. By program (genexs.py). -/
namespace Go.Proofs.YtbhnlfgccldmaaaGreat
open Go.ChangeShapes Go.WideShapes Go.ChangeAt Go.RowKit
set_option linter.unusedVariables false
set_option linter.unusedSimpArgs false
/-- Two kids in memory. -/
structure KC (w : World) (kb ko : Nat) (k0 n0 : Int) (v0 : Value) (k1 n1 : Int) (v1 : Value) : Prop where
  lt : kb < w.heap.size
  c0 : w.cell? ⟨kb, ko, none⟩ = some (.int .i64 k0)
  c1 : w.cell? ⟨kb, ko + 1, none⟩ = some (.int .i64 n0)
  c2 : w.cell? ⟨kb, ko + 2, none⟩ = some v0
  c3 : w.cell? ⟨kb, ko + 3, none⟩ = some (.int .i64 k1)
  c4 : w.cell? ⟨kb, ko + 4, none⟩ = some (.int .i64 n1)
  c5 : w.cell? ⟨kb, ko + 5, none⟩ = some v1
theorem KC.belowY {w w' : World} {kb ko Y : Nat} {k0 n0 k1 n1 : Int} {v0 v1 : Value} (h : KC w kb ko k0 n0 v0 k1 n1 v1) (hb : Below Y w w') (hY : kb < Y) : KC w' kb ko k0 n0 v0 k1 n1 v1 :=
  ⟨Nat.lt_of_lt_of_le h.lt hb.size, (hb.cell (p := ⟨kb, ko, none⟩) hY).trans h.c0, (hb.cell (p := ⟨kb, ko + 1, none⟩) hY).trans h.c1, (hb.cell (p := ⟨kb, ko + 2, none⟩) hY).trans h.c2, (hb.cell (p := ⟨kb, ko + 3, none⟩) hY).trans h.c3, (hb.cell (p := ⟨kb, ko + 4, none⟩) hY).trans h.c4, (hb.cell (p := ⟨kb, ko + 5, none⟩) hY).trans h.c5⟩
theorem KC.below {w w' : World} {kb ko : Nat} {k0 n0 k1 n1 : Int} {v0 v1 : Value} (h : KC w kb ko k0 n0 v0 k1 n1 v1) (hb : Below w.heap.size w w') : KC w' kb ko k0 n0 v0 k1 n1 v1 := h.belowY hb h.lt
def twx (cs ws : List Int) (N b : Nat) : List Int := tab N fun t => fm (cs.getD t 0 * ws.getD (t / b * (t % b)) 0)
theorem twx_at (cs ws : List Int) (N b i j : Nat) (hj : j < b) (h : i * b + j < N) : (twx cs ws N b).getD (i * b + j) 0 = fm (cs.getD (i * b + j) 0 * ws.getD (i * j) 0) := by
  unfold twx
  rw [tab_at _ _ _ h]
  obtain ⟨h1, h2⟩ := (flat_eq (i := i) (t := i * b + j) hj).1 rfl
  rw [h1, h2]
theorem twx_wf (cs ws : List Int) (N b : Nat) : ∀ z ∈ twx cs ws N b, (Lit.int .u64 z).wf = true := tab_wf N _ fun t => ⟨fm_lo _, fm_hi _⟩
theorem rowsl_b (r : Int) (xs : List Int) (a b k : Nat) : 0 ≤ (rowsl r xs a b).getD k 0 ∧ (rowsl r xs a b).getD k 0 ≤ 18446744069414584320 := by
  unfold rowsl gridf
  by_cases hk : k < a * b
  · rw [List.getD_eq_getElem?_getD, List.getElem?_map, List.getElem?_range hk]
    exact horl_b _ _ _ _
  · rw [List.getD_eq_getElem?_getD, List.getElem?_eq_none (by simp; omega)]; exact ⟨by simp, by simp⟩
/-- What split puts at its place. -/
theorem split_put {r ra rb : Int} {a b N : Nat} (hN : a * b = N) (xs : List Int) (hl : xs.length = N) (hn : fm (r ^ N) = 1) (ha : fm ra = fm (r ^ b)) (hb : fm rb = fm (r ^ a)) {i j : Nat} (hi : i < a) (hj : j < b) :
    (rowsl rb (twx (colsl ra xs a b) (powl r N) N b) a b).getD (i * b + j) 0 = (horl r xs N).getD (j * a + i) 0 := by
  subst hN
  have hg : ∀ i j, i < a → j < b → fm ((twx (colsl ra xs a b) (powl r (a * b)) (a * b) b).getD (i * b + j) 0) = fm ((colsl ra xs a b).getD (i * b + j) 0 * r ^ (i * j)) := fun i j hi hj => by
    have hij : i * j < a * b := Nat.lt_of_le_of_lt (Nat.mul_le_mul_left i (Nat.le_of_lt hj)) (Nat.mul_lt_mul_of_pos_right hi (by omega))
    rw [twx_at _ _ _ _ _ _ hj (lt_mul hi hj), fm_fm, powl_at _ _ _ hij, fm_mul_r]
  have h := split_at xs hl hn ha hb _ hg hi hj
  obtain ⟨b0, b1⟩ := rowsl_b rb (twx (colsl ra xs a b) (powl r (a * b)) (a * b) b) a b (i * b + j)
  rw [fm_small _ b0 b1] at h
  rw [h, Nat.mul_comm j a, Nat.add_comm]
set_option maxRecDepth 100000 in
set_option maxHeartbeats 16000000 in
theorem exec_split (G a b N : Nat) (hN : a * b = N) (k d k0 k1 r ra rb : Int) (v0 v1 : Value) (kb ko km kc : Nat) (p q : Option Addr) (c e0 : Nat) (xs : List Int) (W : World) (hx : Row W p N xs) (hs : N ≤ 16777216) (ha : 1 ≤ a) (hb1 : 1 ≤ b) (hkm : 2 ≤ km) (hC : KC W kb ko k0 a v0 k1 b v1)
    (hw : Row W q N (powl r N)) (hl : Looks W G ⟨1, N, 0, d⟩ (.slice q N e0)) (hr : fm (r ^ N) = 1) (hra : fm ra = fm (r ^ b)) (hrb : fm rb = fm (r ^ a)) (K0 : RunK W G k0 a v0 d ra) (K1 : RunK W G k1 b v1 d rb) :
    Calls Tryz.prog 154 #[.agg #[.map (some G)], .agg #[.int .i64 k, .int .i64 N, .slice (some ⟨kb, ko, none⟩) km kc], .int .i64 d, .slice p N c] W (GivesNw W N (horl r xs N)) := by
  obtain ⟨w0, w1, hw0, hw1, hWB, hB, l0, l1⟩ := wb_start W G k N (.slice (some ⟨kb, ko, none⟩) km kc)
  have haN : a ≤ N := hN ▸ Nat.le_mul_of_pos_right a (by omega)
  have hbN : b ≤ N := hN ▸ Nat.le_mul_of_pos_left b (by omega)
  have HAB := Lib.hid hN
  have HS := Lib.hid (show 1 ≤ a ∧ 1 ≤ b ∧ N ≤ 16777216 ∧ a ≤ N ∧ b ≤ N from ⟨ha, hb1, hs, haN, hbN⟩)
  have HWB := Lib.hid hWB
  have HB := Lib.hid hB
  have HC := Lib.hid (hC.below hB)
  have EP := Lib.hid (fun (w : World) (h : Below w1.heap.size w1 w) => exec_powers G N d (.slice q N e0) w (hl.below (hB.trans (h.mono hB.size))))
  have CC := Lib.hid (fun (w : World) (h : Below w1.heap.size w1 w) => exec_columns G a b k0 d ra v0 p c xs w N hN (hx.below (hB.trans (h.mono hB.size))) hs ha hb1 (K0.below (hB.trans (h.mono hB.size))))
  have RR := Lib.hid (fun (w : World) (h : Below w1.heap.size w1 w) (X : Nat) (gs : List Int) (hg : RowAt w X 62 gs) (gl : gs.length = N) (gw : ∀ x ∈ gs, (Lit.int .u64 x).wf = true) => exec_rows G a b k1 d rb v1 X gs w N hN hg gl gw hs ha hb1 (K1.below (hB.trans (h.mono hB.size))))
  have HW := Lib.hid (fun (w : World) (h : Below w1.heap.size w1 w) => hw.below (hB.trans (h.mono hB.size)))
  obtain ⟨cs, hcs⟩ : ∃ cs, colsl ra xs a b = cs := ⟨_, rfl⟩
  obtain ⟨ws, hws⟩ : ∃ ws, powl r N = ws := ⟨_, rfl⟩
  have SP := Lib.hid (fun i j (hi : i < a) (hj : j < b) => split_put hN xs hx.len hr hra hrb hi hj)
  have CL := Lib.hid (show cs.length = N from by rw [← hcs, colsl_len, hN])
  have CW := Lib.hid (show ∀ z ∈ cs, (Lit.int .u64 z).wf = true from hcs ▸ colsl_wf ra xs a b)
  rw [hcs] at CC SP
  rw [hws] at HW SP
  obtain ⟨gs, hgs⟩ : ∃ gs, twx cs ws N b = gs := ⟨_, rfl⟩
  have GA := Lib.hid (fun i j (hj : j < b) (h : i * b + j < N) => (show gs.getD (i * b + j) 0 = fm (cs.getD (i * b + j) 0 * ws.getD (i * j) 0) from hgs ▸ twx_at cs ws N b i j hj h))
  have GL := Lib.hid (show gs.length = N from by rw [← hgs]; exact tab_len _ _)
  have GW := Lib.hid (show ∀ z ∈ gs, (Lit.int .u64 z).wf = true from hgs ▸ twx_wf cs ws N b)
  rw [hgs] at SP
  obtain ⟨rs, hrs⟩ : ∃ rs, rowsl rb gs a b = rs := ⟨_, rfl⟩
  rw [hrs] at SP
  have RS := Lib.hid (fun (w : World) (h : Below w1.heap.size w1 w) (X : Nat) (hg : RowAt w X 62 gs) => (show Calls Tryz.prog 175 #[.agg #[.map (some G)], .agg #[.int .i64 k1, .int .i64 b, v1], .int .i64 d, .slice (some ⟨X, 0, none⟩) N N] w (GivesNw w N rs) from hrs ▸ RR.out w h X gs hg GL.out GW.out))
  obtain ⟨ys, hys⟩ : ∃ ys, horl r xs N = ys := ⟨_, rfl⟩
  have YW := Lib.hid (show ∀ z ∈ ys, (Lit.int .u64 z).wf = true from hys ▸ horl_wf r xs N)
  have YL := Lib.hid (show ys.length = N from by rw [← hys, horl_len])
  rw [hys] at SP ⊢
  have hmk := make_u64 N (by omega)
  have hm0 : 0 < km := by omega
  have hm1 : 1 < km := by omega
  have hm0i : (0 : Int) < (km : Int) := by omega
  have hm1i : (1 : Int) < (km : Int) := by omega
  obtain ⟨c0, c1, c2, c3⟩ := hWB.cells
  have hC1 := HC.out
  have k0c := hC1.c0
  have k1c := hC1.c1
  have k2c := hC1.c2
  have k3c := hC1.c3
  have k4c := hC1.c4
  have k5c := hC1.c5
  clear hcs hws hgs hrs hys hC hC1 hx hs ha hb1 hkm hw hl hr hra hrb K0 K1 hWB hB l0 l1 haN hbN hN RR
  go_enter Tryz.func154, Tryz.ntmps154
  go_upto_region 1 with fail
  go_quiet (fail)
  go_wp2_with fail
  refine (EP.out _ (below_drewN (Below.refl _ _) _)).mono ?_
  rintro e w2 ⟨rfl, hb2⟩
  have HB2 := Lib.hid ((below_drewN (Below.refl w1.heap.size w1) _).trans (hb2.mono (by simp)))
  clear hb2 c0 c1 c2 c3 k0c k1c k2c k3c k4c k5c hw0 hw1
  obtain ⟨A, hA⟩ : ∃ A, W.heap.size = A := ⟨_, rfl⟩
  obtain ⟨B, hBB⟩ : ∃ B, w0.heap.size = B := ⟨_, rfl⟩
  rw [hA] at HWB
  rw [hBB] at HWB
  go_upto_region 3 with fail
  (try rw [hA]); (try rw [hBB])
  have FC := Lib.hid (fun (u : World) (h : Below w1.heap.size w1 u) => And.intro (HWB.out.below h).cells (HC.out.below h))
  have Hs0 := HB2.out.trans ((Below.refl w2.heap.size w2).drew.mono HB2.out.size)
  have Z2 := Lib.hid HB2.out.size
  refine wp_region_held_drew (S := (fun w' => Below w1.heap.size w1 w')) (by kernel_rfl) Hs0 (fun hHeld => ?_)
  refine wpAnyH_take (i := 0) (v := ?v1) rfl (by kernel_rfl) (by kernel_rfl) (by kernel_rfl) (fun _ _ _ h => h) (Or.inl ⟨by kernel_rfl, ?hy1⟩) (by assumption) ?rest1
  case hy1 => intro w hSw; (try dsimp only at hSw); obtain ⟨⟨g0, g1, g2, g3⟩, gk⟩ := FC.out w hSw; have gk0 := gk.c0; have gk1 := gk.c1; have gk2 := gk.c2; have gk3 := gk.c3; have gk4 := gk.c4; have gk5 := gk.c5; go_simp; (first | done | with_reducible rfl)
  (try simp only [Act.put, List.getElem_toArray, List.getElem_cons_zero, List.getElem_cons_succ, List.setIfInBounds_toArray, List.set_cons_zero, List.set_cons_succ])
  refine wpAnyH_take (i := 1) (v := ?v2) rfl (by kernel_rfl) (by kernel_rfl) (by kernel_rfl) (fun _ _ _ h => h) (Or.inl ⟨by kernel_rfl, ?hy2⟩) (by assumption) ?rest2
  case hy2 => intro w hSw; clear hSw; go_simp; (first | done | with_reducible rfl)
  (try simp only [Act.put, List.getElem_toArray, List.getElem_cons_zero, List.getElem_cons_succ, List.setIfInBounds_toArray, List.set_cons_zero, List.set_cons_succ])
  refine wpAnyH_take (i := 2) (v := ?v3) rfl (by kernel_rfl) (by kernel_rfl) (by kernel_rfl) (fun _ _ _ h => h) (Or.inl ⟨by kernel_rfl, ?hy3⟩) (by assumption) ?rest3
  case hy3 => intro w hSw; (try dsimp only at hSw); obtain ⟨⟨g0, g1, g2, g3⟩, gk⟩ := FC.out w hSw; have gk0 := gk.c0; have gk1 := gk.c1; have gk2 := gk.c2; have gk3 := gk.c3; have gk4 := gk.c4; have gk5 := gk.c5; go_simp; (first | done | with_reducible rfl)
  (try simp only [Act.put, List.getElem_toArray, List.getElem_cons_zero, List.getElem_cons_succ, List.setIfInBounds_toArray, List.set_cons_zero, List.set_cons_succ])
  refine wpAnyH_take (i := 3) (v := ?v4) rfl (by kernel_rfl) (by kernel_rfl) (by kernel_rfl) (fun _ _ _ h => h) (Or.inl ⟨by kernel_rfl, ?hy4⟩) (by assumption) ?rest4
  case hy4 => intro w hSw; clear hSw; go_simp; (first | done | with_reducible rfl)
  (try simp only [Act.put, List.getElem_toArray, List.getElem_cons_zero, List.getElem_cons_succ, List.setIfInBounds_toArray, List.set_cons_zero, List.set_cons_succ])
  refine wpAnyH_take (i := 4) (v := ?v5) rfl (by kernel_rfl) (by kernel_rfl) (by kernel_rfl) (fun _ _ _ h => h) (Or.inl ⟨by kernel_rfl, ?hy5⟩) (by assumption) ?rest5
  case hy5 => intro w hSw; (try dsimp only at hSw); obtain ⟨⟨g0, g1, g2, g3⟩, gk⟩ := FC.out w hSw; have gk0 := gk.c0; have gk1 := gk.c1; have gk2 := gk.c2; have gk3 := gk.c3; have gk4 := gk.c4; have gk5 := gk.c5; go_simp; (first | done | with_reducible rfl)
  (try simp only [Act.put, List.getElem_toArray, List.getElem_cons_zero, List.getElem_cons_succ, List.setIfInBounds_toArray, List.set_cons_zero, List.set_cons_succ])
  refine wpAnyH_take (i := 5) (v := ?v6) rfl (by kernel_rfl) (by kernel_rfl) (by kernel_rfl) (fun _ _ _ h => h) (Or.inl ⟨by kernel_rfl, ?hy6⟩) (by assumption) ?rest6
  case hy6 => intro w hSw; clear hSw; go_simp; (first | done | with_reducible rfl)
  (try simp only [Act.put, List.getElem_toArray, List.getElem_cons_zero, List.getElem_cons_succ, List.setIfInBounds_toArray, List.set_cons_zero, List.set_cons_succ])
  refine wpAnyH_take (i := 6) (v := ?v7) rfl (by kernel_rfl) (by kernel_rfl) (by kernel_rfl) (fun _ _ _ h => h) (Or.inl ⟨by kernel_rfl, ?hy7⟩) (by assumption) ?rest7
  case hy7 => intro w hSw; clear hSw; go_simp; (first | done | with_reducible rfl)
  (try simp only [Act.put, List.getElem_toArray, List.getElem_cons_zero, List.getElem_cons_succ, List.setIfInBounds_toArray, List.set_cons_zero, List.set_cons_succ])
  refine wpAnyH_take (i := 7) (v := ?v8) rfl (by kernel_rfl) (by kernel_rfl) (by kernel_rfl) (fun _ _ _ h => h) (Or.inl ⟨by kernel_rfl, ?hy8⟩) (by assumption) ?rest8
  case hy8 => intro w hSw; clear hSw; go_simp; (first | done | with_reducible rfl)
  (try simp only [Act.put, List.getElem_toArray, List.getElem_cons_zero, List.getElem_cons_succ, List.setIfInBounds_toArray, List.set_cons_zero, List.set_cons_succ])
  refine wpAnyH_ready (rs := [8]) (by kernel_rfl) (by simp) ?_
  refine AllReadyH.cons rfl (fun K hK => ?_) AllReadyH.nil
  go_simp
  refine (CC.out _ hHeld).mono ?_
  rintro e u ⟨Y, rfl, hRY, hYn, hb⟩
  (try go_wp2_with fail)
  refine hK.out _ _ (hHeld.trans (hb.mono hHeld.size)) (fun hHeld2 => ?_)
  clear hK K hHeld
  have hHeld := hHeld2
  clear hHeld2
  (try simp only [Act.put, List.getElem_toArray, List.getElem_cons_zero, List.getElem_cons_succ, List.setIfInBounds_toArray, List.set_cons_zero, List.set_cons_succ])
  refine wpAnyH_take (i := 9) (v := ?v10) rfl (by kernel_rfl) (by kernel_rfl) (by kernel_rfl) (fun _ _ _ h => h) (Or.inl ⟨by kernel_rfl, ?hy10⟩) (by assumption) ?rest10
  case hy10 => intro w hSw; clear hSw; go_simp; (first | done | with_reducible rfl)
  (try simp only [Act.put, List.getElem_toArray, List.getElem_cons_zero, List.getElem_cons_succ, List.setIfInBounds_toArray, List.set_cons_zero, List.set_cons_succ])
  have RYH := Lib.hid hRY
  refine wpAnyH_done (by kernel_rfl) ?_ _
  have HY := Lib.hid (And.intro hRY (Nat.le_trans (Nat.le_trans Z2.out hb.size) (Nat.le_of_eq rfl)))
  have HYb := Lib.hid (show w1.heap.size ≤ Y from Nat.le_trans Z2.out (by simpa using hYn))
  have HB3 := Lib.hid hHeld
  clear hRY hYn hb hHeld Hs0 HY
  have HYR := Lib.hid RYH.out
  go_wp2_with fail
  go_loopw [13, 14, 43, 47] (fun _ _ x _ wr => ∃ i : Nat, i ≤ a ∧ x = .int .i64 i ∧ Hid (RowAt wr Y 62 (tab N (fillt gs cs (i * b)))) ∧ Hid (Below w1.heap.size w1 wr)) (fun _ _ x _ _ => a - (intOf x).toNat)
  case atStart => exact ⟨0, Nat.zero_le _, rfl, Lib.hid (by rw [Nat.zero_mul, fillt_start gs cs N CL.out]; exact HYR.out), HB3⟩
  case round =>
    obtain ⟨i, hi, rfl, RL, HBL⟩ := hrel
    by_cases hia : i < a
    · have hii : (i : Int) < (a : Int) := by omega
      have WI := Lib.hid (show wrap64 ((i : Int) + 1) = ((i + 1 : Nat) : Int) by have := HS.out; simp only [wrap64]; omega)
      obtain ⟨wu, rfl⟩ : ∃ wu, wu = wr := ⟨_, rfl⟩
      go_wp2_with fail
      go_loopw [14, 47] (fun _ x wr => ∃ j : Nat, j ≤ b ∧ x = .int .i64 j ∧ Hid (RowAt wr Y 62 (tab N (fillt gs cs (i * b + j)))) ∧ Hid (Below w1.heap.size w1 wr)) (fun _ x _ => b - (intOf x).toNat)
      case atStart => exact ⟨0, Nat.zero_le _, rfl, RL, HBL⟩
      case round =>
        clear RL HBL
        obtain ⟨j, hj, rfl, RL, HBL⟩ := hrel
        by_cases hjb : j < b
        · have hji : (j : Int) < (b : Int) := by omega
          have hq : i * b + j < N := by rw [← HAB.out]; exact lt_mul hia hjb
          have hij : i * j < N := by
            rw [← HAB.out]
            exact Nat.lt_of_le_of_lt (Nat.mul_le_mul_left i (Nat.le_of_lt hjb)) (Nat.mul_lt_mul_of_pos_right hia (by omega))
          have WJ := Lib.hid (show wrap64 ((j : Int) + 1) = ((j + 1 : Nat) : Int) by have := HS.out; simp only [wrap64]; omega)
          have GAq := Lib.hid (GA.out i j hjb hq)
          have hcl := RL.out.cell (k := i * b + j) (by rw [tab_len]; exact hq)
          rw [tab_at _ _ _ hq, fillt, if_neg (Nat.lt_irrefl _)] at hcl
          obtain ⟨bw, ow, rfl, hbw, kw, y0, y1⟩ := (HW.out wr HBL.out).cell hij
          have hx01 := wf_getD CW.out (i * b + j)
          have RN := Lib.hid (fun (u : World) (h : RowAt u Y 62 (tab N (fillt gs cs (i * b + j)))) => (show RowAt (u.setCell ⟨Y, i * b + j, none⟩ (.int .u64 (gs.getD (i * b + j) 0))) Y 62 (tab N (fillt gs cs (i * b + (j + 1)))) from by
            have := h.set (i * b + j) (gs.getD (i * b + j) 0)
            rwa [fillt_step] at this))
          rw [GAq.out] at RN
          have hwm : IntKind.i64.wrap ((i : Int) * (b : Int)) = ((i * b : Nat) : Int) := by
            rw [← Int.natCast_mul]; exact IntWalk.i64_in _ (by have := HS.out; omega)
          have HWM := Lib.hid hwm
          clear hwm
          have HWIJ := Lib.hid (show IntKind.i64.wrap ((i : Int) * (j : Int)) = ((i * j : Nat) : Int) by rw [← Int.natCast_mul]; exact IntWalk.i64_in _ (by have := HS.out; omega))
          have HWA := Lib.hid (show IntKind.i64.wrap (((i * b : Nat) : Int) + (j : Int)) = ((i * b + j : Nat) : Int) by rw [IntWalk.i64_in _ (by have := HS.out; omega)]; omega)
          obtain ⟨ib, hib⟩ : ∃ ib, i * b = ib := ⟨_, rfl⟩
          obtain ⟨ij, hij2⟩ : ∃ ij, i * j = ij := ⟨_, rfl⟩
          rw [hib] at hq hcl RN HWM HWA hx01 RL
          rw [hij2] at hij kw y0 y1 RN HWIJ
          rw [show ib + (j + 1) = (ib + j) + 1 by omega] at RN
          have RGOAL := Lib.hid (show ib + j + 1 = i * b + (j + 1) by rw [hib]; omega)
          obtain ⟨Q, hQ⟩ : ∃ Q, ib + j = Q := ⟨_, rfl⟩
          rw [hQ] at hq hcl RN HWA hx01 RL RGOAL
          obtain ⟨x, hx⟩ : ∃ x, cs.getD Q 0 = x := ⟨_, rfl⟩
          obtain ⟨y, hy⟩ : ∃ y, ws.getD ij 0 = y := ⟨_, rfl⟩
          rw [hx] at hcl hx01 RN
          rw [hy] at kw y0 y1 RN
          obtain ⟨x0, x1⟩ := hx01
          have HMUL := Lib.hid (fun (w : World) => gold_mul x y w x0 x1 y0 y1)
          have YL2 := Lib.hid RL.out.lt
          have FX := Lib.hid (fun (u : World) (h : Below wr.drew.heap.size wr.drew u) => (show u.cell? ⟨bw, ow + ij, none⟩ = some (.int .u64 y) ∧ u.cell? ⟨Y, Q, none⟩ = some (.int .u64 x) ∧ u.frozen? ⟨Y, Q, none⟩ = false ∧ RowAt u Y 62 (tab N (fillt gs cs Q)) from
            have hr : RowAt u Y 62 (tab N (fillt gs cs Q)) := (show RowAt wr.drew Y _ _ from RL.out).below h
            ⟨(h.cell (p := ⟨bw, ow + ij, none⟩) hbw).trans kw, (h.cell (p := ⟨Y, Q, none⟩) YL2.out).trans hcl, hr.free Q, hr⟩))
          have hQi : (Q : Int) < (N : Int) := by omega
          have hIJi : (ij : Int) < (N : Int) := by omega
          have hI0 : (0 : Int) ≤ (i : Int) := by omega
          have Z3 := Lib.hid HBL.out.size
          clear hib hij2 hQ hx hy kw hcl GAq hbw y0 y1 x0 x1
          go_wp2_with fail
          have w1i := HWM.out
          have w2i := HWA.out
          have w3i := HWIJ.out
          refine region_gate (fun w' => Below wr.drew.heap.size wr.drew w') 22 (by kernel_rfl) (Below.refl _ _) (fun hHeld => ?_)
          refine gate_takeF (i := 0) (v := ?v20) rfl (by kernel_rfl) (by kernel_rfl) (by kernel_rfl) (by kernel_rfl) (fun _ _ _ h => h) (Or.inl ⟨by rfl, ?hy20⟩) (by assumption) ?rest20
          case hy20 => intro w hSw; clear hSw; go_simp; (first | done | with_reducible rfl)
          (try simp only [Act.put, List.getElem_toArray, List.getElem_cons_zero, List.getElem_cons_succ, List.setIfInBounds_toArray, List.set_cons_zero, List.set_cons_succ])
          refine gate_takeF (i := 1) (v := ?v21) rfl (by kernel_rfl) (by kernel_rfl) (by kernel_rfl) (by kernel_rfl) (fun _ _ _ h => h) (Or.inl ⟨by rfl, ?hy21⟩) (by assumption) ?rest21
          case hy21 => intro w hSw; clear hSw; go_simp; (first | done | with_reducible rfl)
          (try simp only [Act.put, List.getElem_toArray, List.getElem_cons_zero, List.getElem_cons_succ, List.setIfInBounds_toArray, List.set_cons_zero, List.set_cons_succ])
          refine gate_takeF (i := 2) (v := ?v22) rfl (by kernel_rfl) (by kernel_rfl) (by kernel_rfl) (by kernel_rfl) (fun _ _ _ h => h) (Or.inl ⟨by rfl, ?hy22⟩) (by assumption) ?rest22
          case hy22 => intro w hSw; clear hSw; go_simp; (first | done | with_reducible rfl)
          (try simp only [Act.put, List.getElem_toArray, List.getElem_cons_zero, List.getElem_cons_succ, List.setIfInBounds_toArray, List.set_cons_zero, List.set_cons_succ])
          refine gate_takeF (i := 3) (v := ?v23) rfl (by kernel_rfl) (by kernel_rfl) (by kernel_rfl) (by kernel_rfl) (fun _ _ _ h => h) (Or.inl ⟨by rfl, ?hy23⟩) (by assumption) ?rest23
          case hy23 => intro w hSw; clear hSw; go_simp; (first | done | with_reducible rfl)
          (try simp only [Act.put, List.getElem_toArray, List.getElem_cons_zero, List.getElem_cons_succ, List.setIfInBounds_toArray, List.set_cons_zero, List.set_cons_succ])
          refine gate_takeF (i := 4) (v := ?v24) rfl (by kernel_rfl) (by kernel_rfl) (by kernel_rfl) (by kernel_rfl) (fun _ _ _ h => h) (Or.inl ⟨by rfl, ?hy24⟩) (by assumption) ?rest24
          case hy24 => intro w hSw; clear hSw; go_simp; (first | done | with_reducible rfl)
          (try simp only [Act.put, List.getElem_toArray, List.getElem_cons_zero, List.getElem_cons_succ, List.setIfInBounds_toArray, List.set_cons_zero, List.set_cons_succ])
          refine gate_takeF (i := 5) (v := ?v25) rfl (by kernel_rfl) (by kernel_rfl) (by kernel_rfl) (by kernel_rfl) (fun _ _ _ h => h) (Or.inl ⟨by rfl, ?hy25⟩) (by assumption) ?rest25
          case hy25 => intro w hSw; clear hSw; go_simp; (first | done | with_reducible rfl)
          (try simp only [Act.put, List.getElem_toArray, List.getElem_cons_zero, List.getElem_cons_succ, List.setIfInBounds_toArray, List.set_cons_zero, List.set_cons_succ])
          refine gate_takeF (i := 6) (v := ?v26) rfl (by kernel_rfl) (by kernel_rfl) (by kernel_rfl) (by kernel_rfl) (fun _ _ _ h => h) (Or.inl ⟨by rfl, ?hy26⟩) (by assumption) ?rest26
          case hy26 => intro w hSw; clear hSw; go_simp; (first | done | with_reducible rfl)
          (try simp only [Act.put, List.getElem_toArray, List.getElem_cons_zero, List.getElem_cons_succ, List.setIfInBounds_toArray, List.set_cons_zero, List.set_cons_succ])
          refine gate_takeF (i := 7) (v := ?v27) rfl (by kernel_rfl) (by kernel_rfl) (by kernel_rfl) (by kernel_rfl) (fun _ _ _ h => h) (Or.inl ⟨by rfl, ?hy27⟩) (by assumption) ?rest27
          case hy27 => intro w hSw; clear hSw; go_simp; (first | done | with_reducible rfl)
          (try simp only [Act.put, List.getElem_toArray, List.getElem_cons_zero, List.getElem_cons_succ, List.setIfInBounds_toArray, List.set_cons_zero, List.set_cons_succ])
          refine gate_takeF (i := 8) (v := ?v28) rfl (by kernel_rfl) (by kernel_rfl) (by kernel_rfl) (by kernel_rfl) (fun _ _ _ h => h) (Or.inl ⟨by rfl, ?hy28⟩) (by assumption) ?rest28
          case hy28 => intro w hSw; clear hSw; go_simp; (first | done | with_reducible rfl)
          (try simp only [Act.put, List.getElem_toArray, List.getElem_cons_zero, List.getElem_cons_succ, List.setIfInBounds_toArray, List.set_cons_zero, List.set_cons_succ])
          refine gate_takeF (i := 9) (v := ?v29) rfl (by kernel_rfl) (by kernel_rfl) (by kernel_rfl) (by kernel_rfl) (fun _ _ _ h => h) (Or.inl ⟨by rfl, ?hy29⟩) (by assumption) ?rest29
          case hy29 => intro w hSw; clear hSw; go_simp; (first | done | with_reducible rfl)
          (try simp only [Act.put, List.getElem_toArray, List.getElem_cons_zero, List.getElem_cons_succ, List.setIfInBounds_toArray, List.set_cons_zero, List.set_cons_succ])
          refine gate_takeF (i := 10) (v := ?v30) rfl (by kernel_rfl) (by kernel_rfl) (by kernel_rfl) (by kernel_rfl) (fun _ _ _ h => h) (Or.inl ⟨by rfl, ?hy30⟩) (by assumption) ?rest30
          case hy30 => intro w hSw; clear hSw; go_simp; (first | done | with_reducible rfl)
          (try simp only [Act.put, List.getElem_toArray, List.getElem_cons_zero, List.getElem_cons_succ, List.setIfInBounds_toArray, List.set_cons_zero, List.set_cons_succ])
          refine gate_takeF (i := 11) (v := ?v31) rfl (by kernel_rfl) (by kernel_rfl) (by kernel_rfl) (by kernel_rfl) (fun _ _ _ h => h) (Or.inl ⟨by rfl, ?hy31⟩) (by assumption) ?rest31
          case hy31 => intro w hSw; clear hSw; go_simp; (first | done | with_reducible rfl)
          (try simp only [Act.put, List.getElem_toArray, List.getElem_cons_zero, List.getElem_cons_succ, List.setIfInBounds_toArray, List.set_cons_zero, List.set_cons_succ])
          refine gate_takeF (i := 12) (v := ?v32) rfl (by kernel_rfl) (by kernel_rfl) (by kernel_rfl) (by kernel_rfl) (fun _ _ _ h => h) (Or.inl ⟨by rfl, ?hy32⟩) (by assumption) ?rest32
          case hy32 => intro w hSw; clear hSw; go_simp; (first | done | with_reducible rfl)
          (try simp only [Act.put, List.getElem_toArray, List.getElem_cons_zero, List.getElem_cons_succ, List.setIfInBounds_toArray, List.set_cons_zero, List.set_cons_succ])
          refine gate_take (i := 13) (v := ?v33) rfl (by kernel_rfl) (by kernel_rfl) (by kernel_rfl) (by kernel_rfl) (by kernel_rfl) (fun _ _ _ h => h) (Or.inl ⟨by rfl, ?hy33⟩) (by assumption) ?rest33
          case hy33 => intro w hSw; (try dsimp only at hSw); obtain ⟨g1, g2, g3, g4⟩ := FX.out w hSw; go_simp; (first | done | with_reducible rfl)
          (try simp only [Act.put, List.getElem_toArray, List.getElem_cons_zero, List.getElem_cons_succ, List.setIfInBounds_toArray, List.set_cons_zero, List.set_cons_succ])
          refine gate_takeF (i := 14) (v := ?v34) rfl (by kernel_rfl) (by kernel_rfl) (by kernel_rfl) (by kernel_rfl) (fun _ _ _ h => h) (Or.inl ⟨by rfl, ?hy34⟩) (by assumption) ?rest34
          case hy34 => intro w hSw; clear hSw; go_simp; (first | done | with_reducible rfl)
          (try simp only [Act.put, List.getElem_toArray, List.getElem_cons_zero, List.getElem_cons_succ, List.setIfInBounds_toArray, List.set_cons_zero, List.set_cons_succ])
          refine gate_takeF (i := 15) (v := ?v35) rfl (by kernel_rfl) (by kernel_rfl) (by kernel_rfl) (by kernel_rfl) (fun _ _ _ h => h) (Or.inl ⟨by rfl, ?hy35⟩) (by assumption) ?rest35
          case hy35 => intro w hSw; clear hSw; go_simp; (first | done | with_reducible rfl)
          (try simp only [Act.put, List.getElem_toArray, List.getElem_cons_zero, List.getElem_cons_succ, List.setIfInBounds_toArray, List.set_cons_zero, List.set_cons_succ])
          refine gate_takeF (i := 16) (v := ?v36) rfl (by kernel_rfl) (by kernel_rfl) (by kernel_rfl) (by kernel_rfl) (fun _ _ _ h => h) (Or.inl ⟨by rfl, ?hy36⟩) (by assumption) ?rest36
          case hy36 => intro w hSw; clear hSw; go_simp; (first | done | with_reducible rfl)
          (try simp only [Act.put, List.getElem_toArray, List.getElem_cons_zero, List.getElem_cons_succ, List.setIfInBounds_toArray, List.set_cons_zero, List.set_cons_succ])
          refine gate_takeF (i := 17) (v := ?v37) rfl (by kernel_rfl) (by kernel_rfl) (by kernel_rfl) (by kernel_rfl) (fun _ _ _ h => h) (Or.inl ⟨by rfl, ?hy37⟩) (by assumption) ?rest37
          case hy37 => intro w hSw; clear hSw; go_simp; (first | done | with_reducible rfl)
          (try simp only [Act.put, List.getElem_toArray, List.getElem_cons_zero, List.getElem_cons_succ, List.setIfInBounds_toArray, List.set_cons_zero, List.set_cons_succ])
          refine gate_takeF (i := 18) (v := ?v38) rfl (by kernel_rfl) (by kernel_rfl) (by kernel_rfl) (by kernel_rfl) (fun _ _ _ h => h) (Or.inl ⟨by rfl, ?hy38⟩) (by assumption) ?rest38
          case hy38 => intro w hSw; clear hSw; go_simp; (first | done | with_reducible rfl)
          (try simp only [Act.put, List.getElem_toArray, List.getElem_cons_zero, List.getElem_cons_succ, List.setIfInBounds_toArray, List.set_cons_zero, List.set_cons_succ])
          refine gate_take (i := 19) (v := ?v39) rfl (by kernel_rfl) (by kernel_rfl) (by kernel_rfl) (by kernel_rfl) (by kernel_rfl) (fun _ _ _ h => h) (Or.inl ⟨by rfl, ?hy39⟩) (by assumption) ?rest39
          case hy39 => intro w hSw; (try dsimp only at hSw); obtain ⟨g1, g2, g3, g4⟩ := FX.out w hSw; go_simp; (first | done | with_reducible rfl)
          (try simp only [Act.put, List.getElem_toArray, List.getElem_cons_zero, List.getElem_cons_succ, List.setIfInBounds_toArray, List.set_cons_zero, List.set_cons_succ])
          refine gate_one (i := 20) rfl (by kernel_rfl) (fun K hK => ?_)
          go_simp
          refine (HMUL.out _).mono ?_
          rintro e u ⟨rfl, hb⟩
          (try go_wp2_with fail)
          refine hK.out _ _ (hHeld.trans (hb.mono hHeld.size)) (fun hHeld2 => ?_)
          clear hK K hHeld
          have hHeld := hHeld2
          clear hHeld2
          (try simp only [Act.put, List.getElem_toArray, List.getElem_cons_zero, List.getElem_cons_succ, List.setIfInBounds_toArray, List.set_cons_zero, List.set_cons_succ])
          refine gate_takeF (i := 21) (v := ?v41) rfl (by kernel_rfl) (by kernel_rfl) (by kernel_rfl) (by kernel_rfl) (fun _ _ _ h => h) (Or.inl ⟨by rfl, ?hy41⟩) (by assumption) ?rest41
          case hy41 => intro w hSw; clear hSw; go_simp; (first | done | with_reducible rfl)
          (try simp only [Act.put, List.getElem_toArray, List.getElem_cons_zero, List.getElem_cons_succ, List.setIfInBounds_toArray, List.set_cons_zero, List.set_cons_succ])
          obtain ⟨g1, g2, g3, g4⟩ := FX.out _ hHeld
          refine gate_past (i := 22) rfl (by kernel_rfl) (by kernel_rfl) (fun K hK => ?_)
          go_simp
          refine hK.out _ _ ?_
          clear hK K
          (try simp only [Act.put, List.getElem_toArray, List.getElem_cons_zero, List.getElem_cons_succ, List.setIfInBounds_toArray, List.set_cons_zero, List.set_cons_succ])
          refine gate_done (by kernel_rfl) ?_ _
          have RN2 := Lib.hid (RN.out u g4)
          rw [RGOAL.out] at RN2
          have HB5 := Lib.hid ((HBL.out.trans (((Below.refl wr.heap.size wr).drew.trans hHeld).mono Z3.out)).setCell (p := ⟨Y, Q, none⟩) HYb.out (.int .u64 (fm (x * y))))
          clear g1 g2 g3 g4 hHeld FX w1i w2i w3i
          go_wp2_with fail
          go_roundw
          case rel => exact ⟨j + 1, by omega, by first | rw [WJ.out] | go_num, RN2, HB5⟩
          case measure => first | (first | (simp [intOf]; done) | (simp [intOf]; omega) | (simp only [intOf]; omega)) | (rw [WJ.out]; simp only [intOf]; omega)
        · have hji : ¬ (j : Int) < (b : Int) := by omega
          obtain rfl : j = b := by omega
          have RL2 := Lib.hid (show RowAt wr Y 62 (tab N (fillt gs cs ((i + 1) * j))) from by rw [Nat.add_mul, Nat.one_mul]; exact RL.out)
          clear hjb
          go_wp2_with fail
          go_roundw
          case rel => exact ⟨i + 1, by omega, by first | rw [WI.out] | go_num, RL2, HBL⟩
          case measure => first | (first | (simp [intOf]; done) | (simp [intOf]; omega) | (simp only [intOf]; omega)) | (rw [WI.out]; simp only [intOf]; omega)
    · have hii : ¬ (i : Int) < (a : Int) := by omega
      obtain rfl : i = a := by omega
      have RG := Lib.hid (show RowAt wr Y 62 gs from by have := RL.out; rw [HAB.out] at this; rwa [fillt_end gs cs N GL.out] at this)
      have HBG := Lib.hid HBL.out
      clear hia RL HBL
      obtain ⟨wg, rfl⟩ : ∃ wg, wg = wr := ⟨_, rfl⟩
      go_upto_region 13 with fail
      have Hs1 := HBG.out.trans ((Below.refl wg.heap.size wg).drew.mono HBG.out.size)
      have Z4 := Lib.hid HBG.out.size
      refine wp_region_held_drew (S := (fun w' => Below w1.heap.size w1 w')) (by kernel_rfl) Hs1 (fun hHeld => ?_)
      refine wpAnyH_take (i := 0) (v := ?v11) rfl (by kernel_rfl) (by kernel_rfl) (by kernel_rfl) (fun _ _ _ h => h) (Or.inl ⟨by kernel_rfl, ?hy11⟩) (by assumption) ?rest11
      case hy11 => intro w hSw; (try dsimp only at hSw); obtain ⟨⟨g0, g1, g2, g3⟩, gk⟩ := FC.out w hSw; have gk0 := gk.c0; have gk1 := gk.c1; have gk2 := gk.c2; have gk3 := gk.c3; have gk4 := gk.c4; have gk5 := gk.c5; go_simp; (first | done | with_reducible rfl)
      (try simp only [Act.put, List.getElem_toArray, List.getElem_cons_zero, List.getElem_cons_succ, List.setIfInBounds_toArray, List.set_cons_zero, List.set_cons_succ])
      refine wpAnyH_take (i := 1) (v := ?v12) rfl (by kernel_rfl) (by kernel_rfl) (by kernel_rfl) (fun _ _ _ h => h) (Or.inl ⟨by kernel_rfl, ?hy12⟩) (by assumption) ?rest12
      case hy12 => intro w hSw; clear hSw; go_simp; (first | done | with_reducible rfl)
      (try simp only [Act.put, List.getElem_toArray, List.getElem_cons_zero, List.getElem_cons_succ, List.setIfInBounds_toArray, List.set_cons_zero, List.set_cons_succ])
      refine wpAnyH_take (i := 2) (v := ?v13) rfl (by kernel_rfl) (by kernel_rfl) (by kernel_rfl) (fun _ _ _ h => h) (Or.inl ⟨by kernel_rfl, ?hy13⟩) (by assumption) ?rest13
      case hy13 => intro w hSw; (try dsimp only at hSw); obtain ⟨⟨g0, g1, g2, g3⟩, gk⟩ := FC.out w hSw; have gk0 := gk.c0; have gk1 := gk.c1; have gk2 := gk.c2; have gk3 := gk.c3; have gk4 := gk.c4; have gk5 := gk.c5; go_simp; (first | done | with_reducible rfl)
      (try simp only [Act.put, List.getElem_toArray, List.getElem_cons_zero, List.getElem_cons_succ, List.setIfInBounds_toArray, List.set_cons_zero, List.set_cons_succ])
      refine wpAnyH_take (i := 3) (v := ?v14) rfl (by kernel_rfl) (by kernel_rfl) (by kernel_rfl) (fun _ _ _ h => h) (Or.inl ⟨by kernel_rfl, ?hy14⟩) (by assumption) ?rest14
      case hy14 => intro w hSw; clear hSw; go_simp; (first | done | with_reducible rfl)
      (try simp only [Act.put, List.getElem_toArray, List.getElem_cons_zero, List.getElem_cons_succ, List.setIfInBounds_toArray, List.set_cons_zero, List.set_cons_succ])
      refine wpAnyH_take (i := 4) (v := ?v15) rfl (by kernel_rfl) (by kernel_rfl) (by kernel_rfl) (fun _ _ _ h => h) (Or.inl ⟨by kernel_rfl, ?hy15⟩) (by assumption) ?rest15
      case hy15 => intro w hSw; (try dsimp only at hSw); obtain ⟨⟨g0, g1, g2, g3⟩, gk⟩ := FC.out w hSw; have gk0 := gk.c0; have gk1 := gk.c1; have gk2 := gk.c2; have gk3 := gk.c3; have gk4 := gk.c4; have gk5 := gk.c5; go_simp; (first | done | with_reducible rfl)
      (try simp only [Act.put, List.getElem_toArray, List.getElem_cons_zero, List.getElem_cons_succ, List.setIfInBounds_toArray, List.set_cons_zero, List.set_cons_succ])
      refine wpAnyH_take (i := 5) (v := ?v16) rfl (by kernel_rfl) (by kernel_rfl) (by kernel_rfl) (fun _ _ _ h => h) (Or.inl ⟨by kernel_rfl, ?hy16⟩) (by assumption) ?rest16
      case hy16 => intro w hSw; clear hSw; go_simp; (first | done | with_reducible rfl)
      (try simp only [Act.put, List.getElem_toArray, List.getElem_cons_zero, List.getElem_cons_succ, List.setIfInBounds_toArray, List.set_cons_zero, List.set_cons_succ])
      refine wpAnyH_take (i := 6) (v := ?v17) rfl (by kernel_rfl) (by kernel_rfl) (by kernel_rfl) (fun _ _ _ h => h) (Or.inl ⟨by kernel_rfl, ?hy17⟩) (by assumption) ?rest17
      case hy17 => intro w hSw; clear hSw; go_simp; (first | done | with_reducible rfl)
      (try simp only [Act.put, List.getElem_toArray, List.getElem_cons_zero, List.getElem_cons_succ, List.setIfInBounds_toArray, List.set_cons_zero, List.set_cons_succ])
      refine wpAnyH_ready (rs := [7]) (by kernel_rfl) (by simp) ?_
      refine AllReadyH.cons rfl (fun K hK => ?_) AllReadyH.nil
      go_simp
      refine (RS.out _ hHeld Y RG.out).mono ?_
      rintro e u ⟨q5, e5, rfl, r5, -, hb⟩
      (try go_wp2_with fail)
      refine hK.out _ _ (hHeld.trans (hb.mono hHeld.size)) (fun hHeld2 => ?_)
      clear hK K hHeld
      have hHeld := hHeld2
      clear hHeld2
      (try simp only [Act.put, List.getElem_toArray, List.getElem_cons_zero, List.getElem_cons_succ, List.setIfInBounds_toArray, List.set_cons_zero, List.set_cons_succ])
      refine wpAnyH_take (i := 8) (v := ?v19) rfl (by kernel_rfl) (by kernel_rfl) (by kernel_rfl) (fun _ _ _ h => h) (Or.inl ⟨by kernel_rfl, ?hy19⟩) (by assumption) ?rest19
      case hy19 => intro w hSw; clear hSw; go_simp; (first | done | with_reducible rfl)
      (try simp only [Act.put, List.getElem_toArray, List.getElem_cons_zero, List.getElem_cons_succ, List.setIfInBounds_toArray, List.set_cons_zero, List.set_cons_succ])
      refine wpAnyH_done (by kernel_rfl) ?_ _
      have HR5 := Lib.hid r5
      have HB5 := Lib.hid hHeld
      clear r5 hb hHeld Hs1
      obtain ⟨w5, rfl⟩ : ∃ z, z = u := ⟨_, rfl⟩
      obtain ⟨Y2, hY2⟩ : ∃ Y, w5.heap.size = Y := ⟨_, rfl⟩
      obtain ⟨w6, hw6⟩ : ∃ w6, w5.alloc (.cells (Array.replicate N (.int .u64 0)) 62) = w6 := ⟨_, rfl⟩
      have H6 := Lib.hid (show RowAt w6 Y2 62 (tab N (cvt ys i 0 0)) ∧ Below Y2 w5 w6 from by
        subst hY2
        have := RowAt.made w5 62 N
        rw [hw6, cvt_start ys N i] at this
        exact ⟨this, hw6 ▸ (Below.refl _ _).alloc (Nat.le_refl _) _⟩)
      have LR := Lib.hid (fun t (ht : t < N) => HR5.out.cell ht)
      have HY5 := Lib.hid (show Y2 = w5.heap.size ∧ w1.heap.size ≤ Y2 from ⟨hY2.symm, by rw [← hY2]; exact HB5.out.size⟩)
      have HW6 := Lib.hid hw6
      clear hw6
      go_wp2_with fail
      (try rw [hY2]); (try rw [HW6.out])
      go_loopw [16, 17, 86, 90] (fun _ _ x _ wr => ∃ s : Nat, s ≤ i ∧ x = .int .i64 s ∧ Hid (RowAt wr Y2 62 (tab N (cvt ys i s 0))) ∧ Hid (Below Y2 w5 wr)) (fun _ _ x _ _ => i - (intOf x).toNat)
      case atStart => exact ⟨0, Nat.zero_le _, rfl, Lib.hid H6.out.1, Lib.hid H6.out.2⟩
      case round =>
        obtain ⟨s, hs, rfl, RL, HBL⟩ := hrel
        by_cases hsa : s < i
        · have hsi : (s : Int) < (i : Int) := by omega
          have WS := Lib.hid (show wrap64 ((s : Int) + 1) = ((s + 1 : Nat) : Int) by have := HS.out; simp only [wrap64]; omega)
          obtain ⟨wu, rfl⟩ : ∃ wu, wu = wr := ⟨_, rfl⟩
          go_wp2_with fail
          go_loopw [17, 90] (fun _ x wr => ∃ j : Nat, j ≤ b ∧ x = .int .i64 j ∧ Hid (RowAt wr Y2 62 (tab N (cvt ys i s j))) ∧ Hid (Below Y2 w5 wr)) (fun _ x _ => b - (intOf x).toNat)
          case atStart => exact ⟨0, Nat.zero_le _, rfl, RL, HBL⟩
          case round =>
            clear RL HBL
            obtain ⟨j, hj, rfl, RL, HBL⟩ := hrel
            by_cases hjb : j < b
            · have hji : (j : Int) < (b : Int) := by omega
              have hq : s * b + j < N := by rw [← HAB.out]; exact lt_mul hsa hjb
              have hp2 : j * i + s < N := by rw [← HAB.out, Nat.mul_comm i b]; exact lt_mul hjb hsa
              have WJ := Lib.hid (show wrap64 ((j : Int) + 1) = ((j + 1 : Nat) : Int) by have := HS.out; simp only [wrap64]; omega)
              have SPq := SP.out s j hsa hjb
              obtain ⟨br, or_, rfl, hbr, kr, -, -⟩ := LR.out _ hq
              rw [SPq] at kr
              have hr6 := (HBL.out.cell (p := ⟨br, or_ + (s * b + j), none⟩) (by rw [HY5.out.1]; exact hbr)).trans kr
              have cy := RL.out.cell (k := j * i + s) (by rw [tab_len]; exact hp2)
              have fy := RL.out.free (j * i + s)
              have RN := Lib.hid (show RowAt (wr.setCell ⟨Y2, j * i + s, none⟩ (.int .u64 (ys.getD (j * i + s) 0))) Y2 62 (tab N (cvt ys i s (j + 1))) from by
                have := RL.out.set (j * i + s) (ys.getD (j * i + s) 0)
                rwa [cvt_step _ _ _ _ _ hsa] at this)
              have HB7 := Lib.hid (HBL.out.setCell (p := ⟨Y2, j * i + s, none⟩) (Nat.le_refl _) (.int .u64 (ys.getD (j * i + s) 0)))
              have hlt := RL.out.lt
              have hbr6 : br < wr.heap.size := Nat.lt_of_lt_of_le hbr HBL.out.size
              have W1 := Lib.hid (show wrap64 ((s : Int) * (b : Int)) = ((s * b : Nat) : Int) by rw [← Int.natCast_mul]; have := HS.out; simp only [wrap64]; omega)
              have W2 := Lib.hid (show wrap64 (((s * b : Nat) : Int) + (j : Int)) = ((s * b + j : Nat) : Int) by have := HS.out; simp only [wrap64]; omega)
              have W3 := Lib.hid (show wrap64 ((i : Int) * (j : Int)) = ((j * i : Nat) : Int) by rw [← Int.natCast_mul, Nat.mul_comm]; have := HS.out; simp only [wrap64]; omega)
              have W4 := Lib.hid (show wrap64 ((s : Int) + ((j * i : Nat) : Int)) = ((j * i + s : Nat) : Int) by have := HS.out; simp only [wrap64]; omega)
              obtain ⟨sb, hsb⟩ : ∃ sb, s * b = sb := ⟨_, rfl⟩
              obtain ⟨jn, hjn⟩ : ∃ jn, j * i = jn := ⟨_, rfl⟩
              rw [hsb] at hq hr6 W1 W2
              rw [hjn] at hp2 hr6 cy fy RN HB7 W3 W4
              obtain ⟨Q, hQ⟩ : ∃ Q, sb + j = Q := ⟨_, rfl⟩
              obtain ⟨T, hT⟩ : ∃ T, jn + s = T := ⟨_, rfl⟩
              rw [hQ] at hq hr6 W2
              rw [hT] at hp2 hr6 cy fy RN HB7 W4
              obtain ⟨y, hy⟩ : ∃ y, ys.getD T 0 = y := ⟨_, rfl⟩
              rw [hy] at hr6 RN HB7
              have hQi : (Q : Int) < (N : Int) := by omega
              have hTi : (T : Int) < (N : Int) := by omega
              clear hsb hjn hQ hT hy kr SPq hbr
              have u1 := W1.out
              have u2 := W2.out
              have u3 := W3.out
              have u4 := W4.out
              go_wp2_with fail
              go_roundw
              case rel => exact ⟨j + 1, by omega, by first | rw [WJ.out] | go_num, RN, HB7⟩
              case measure => first | (first | (simp [intOf]; done) | (simp [intOf]; omega) | (simp only [intOf]; omega)) | (rw [WJ.out]; simp only [intOf]; omega)
            · have hji : ¬ (j : Int) < (b : Int) := by omega
              obtain rfl : j = b := by omega
              have RL2 := Lib.hid (show RowAt wr Y2 62 (tab N (cvt ys i (s + 1) 0)) from by
                have := RL.out
                rw [← HAB.out, Nat.mul_comm] at this ⊢
                rwa [cvt_row] at this)
              clear hjb
              go_wp2_with fail
              go_roundw
              case rel => exact ⟨s + 1, by omega, by first | rw [WS.out] | go_num, RL2, HBL⟩
              case measure => first | (first | (simp [intOf]; done) | (simp [intOf]; omega) | (simp only [intOf]; omega)) | (rw [WS.out]; simp only [intOf]; omega)
        · have hsi : ¬ (s : Int) < (i : Int) := by omega
          obtain rfl : s = i := by omega
          have RE := Lib.hid (show RowAt wr Y2 62 ys from by have := RL.out; rwa [cvt_end _ _ _ (by have := HS.out; omega) YL.out] at this)
          have WB9 := Lib.hid (show Below W.heap.size W wr ∧ W.heap.size ≤ Y2 from ⟨HB.out.trans ((HB5.out.trans (HBL.out.mono HY5.out.2)).mono HB.out.size), Nat.le_trans HB.out.size HY5.out.2⟩)
          go_wp2_with fail
          go_ret
          exact givesNw_at rfl RE.out YW.out YL.out (by have := HS.out; omega) WB9.out.1 WB9.out.2
end Go.Proofs.YtbhnlfgccldmaaaGreat
/- Numbers read backwards, bit by bit: plain numbers, no Go text. -/
namespace Go.Proofs.YtbhnlfgccldmaaaGreat
open Go.ChangeShapes Go.WideShapes Go.ChangeAt Go.RowKit
set_option linter.unusedVariables false
end Go.Proofs.YtbhnlfgccldmaaaGreat
/- Package perm: Bits. -/
namespace Go.Proofs.YtbhnlfgccldmaaaGreat
open Go.ChangeShapes Go.WideShapes Go.ChangeAt Go.RowKit
set_option linter.unusedVariables false
theorem filli_low (ys : List Int) (k n i : Nat) (hi : i < k) (hk : k ≤ n) (hn : ys.length = n) : (filli ys k n)[i]? = some (.int .i64 (ys.getD i 0)) := by
  unfold filli
  have h1 : i < ys.length := by omega
  rw [List.getElem?_toArray, List.getElem?_map, List.getElem?_append_left (by rw [List.length_take]; omega), List.getElem?_take, if_pos hi, List.getElem?_eq_getElem h1]
  simp [List.getD, h1]
theorem FillingI.read {w : World} {B : Nat} {T : TypeId} {ys : List Int} {k n i : Nat} (h : FillingI w B T ys k n) (hi : i < k) (hk : k ≤ n) (hn : ys.length = n) : w.cell? ⟨B, i, none⟩ = some (.int .i64 (ys.getD i 0)) := by
  rw [cell_of_row w B i _ _ _ h]; exact filli_low ys k n i hi hk hn
theorem FillingI.one (w : World) (T : TypeId) (ys : List Int) (n : Nat) (h0 : 0 < n) (hn : ys.length = n) (hy : ys.getD 0 0 = 0) : FillingI (w.alloc (.cells (Array.replicate n (.int .i64 0)) T)) w.heap.size T ys 1 n := by
  unfold FillingI
  rw [heap_alloc_new]
  have := filli_step ys 0 n h0 hn
  rw [filli_zero, hy] at this
  rw [← this]
  congr 2
  apply Array.ext
  · simp
  · intro i h1 h2; rw [Array.getElem_setIfInBounds (by simpa using h2)]; simp
end Go.Proofs.YtbhnlfgccldmaaaGreat
