/- Put together by program (merge2.py): Rtw. -/
import Derived.BigRegion
import Derived.Deep.DeepCutAuto
import Derived.Deep.CutBlock
import Derived.Test.YtafmiilkdhdngaaGreatDoorR18
/- Reference 23's node: the walk. (Written by genrtw.py.) -/
namespace Go.Proofs.YtafmiilkdhdngaaGreatDoor
open Go.ChangeShapes Go.WideShapes Go.ChangeAt Go.RowKit
set_option linter.unusedVariables false
set_option linter.unusedSimpArgs false
/-- Which word stands there. -/
def Wat (s : ByteArray) (i : Nat) (k : Int) : Prop := (wrd k).data.toList <+: s.data.toList.drop i
def Fnd (s : ByteArray) (i : Nat) (j K : Int) : Prop := (K = 0 ∧ ∀ k : Int, 1 ≤ k → k < j → ¬ Wat s i k) ∨ (1 ≤ K ∧ K < j ∧ Wat s i K)
theorem Fnd.hit {s : ByteArray} {i : Nat} {j K : Int} (h : Wat s i j) (hj : 1 ≤ j) : Fnd s i (j + 1) j := .inr ⟨hj, by omega, h⟩
theorem Fnd.miss {s : ByteArray} {i : Nat} {j K : Int} (h : Fnd s i j K) (hn : ¬ Wat s i j) : Fnd s i (j + 1) K := by
  rcases h with ⟨h1, h2⟩ | ⟨h1, h2, h3⟩
  · refine .inl ⟨h1, fun k hk1 hk2 => ?_⟩
    by_cases e : k = j
    · rw [e]; exact hn
    · exact h2 k hk1 (by omega)
  · exact .inr ⟨h1, by omega, h3⟩
set_option maxRecDepth 100000 in
set_option maxHeartbeats 32000000 in
theorem r23_node (s : ByteArray) (hs : s.size ≤ 4096) (N : Nat) : ∀ (at_ : Nat) (W : World), s.size - at_ < N → at_ ≤ s.size → Calls Tryz.prog 76 #[.string s, .int .i64 at_] W (NbOk s at_ W) := by
  induction N with
  | zero => intro at_ W h; omega
  | succ N ih =>
  intro at_ W hN hat
  obtain ⟨w0, hw0, -, -, -, hB0, hs0⟩ := box3 W 0 0 (.slice none 0 0) 42
  have r0 : w0.heap[W.heap.size]? = some (.cells #[.int .i64 0, .int .i64 0, .slice none 0 0] 42 (0, 0)) := by rw [hw0]; exact heap_alloc_new _ _
  obtain ⟨w1, hw1, -, -, -, hB1, hs1⟩ := box3 w0 0 0 (.slice none 0 0) 42
  have q1 : w1.heap[W.heap.size + 1]? = some (.cells #[.int .i64 0, .int .i64 0, .slice none 0 0] 42 (0, 0)) := by rw [hw1, ← hs0]; exact heap_alloc_new _ _
  have r1 := (hB1.block _ (by omega)).trans r0
  have HB1 := Lib.hid (hB0.trans (hB1.mono hB0.size))
  have HW1 := Lib.hid (show (W.alloc (.cells #[.int .i64 0, .int .i64 0, .slice none 0 0] 42)).alloc (.cells #[.int .i64 0, .int .i64 0, .slice none 0 0] 42) = w1 by rw [hw1, hw0])
  have hz1 : W.heap.size + 2 ≤ w1.heap.size := by omega
  have HR1 := Lib.hid r1
  have HQ1 := Lib.hid q1
  have IH := Lib.hid ih
  clear ih hw0 hw1 hB0 hB1 r0 r1 q1 hs0 hs1 w0
  go_enter Tryz.func76, Tryz.ntmps76
  go_upto_region 2 with fail
  rw [HW1.out]
  go_upto_region 3 with fail
  obtain ⟨b0, hb0⟩ : ∃ b, W.heap.size = b := ⟨_, rfl⟩
  obtain ⟨b1, hb1⟩ : ∃ b, W.heap.size + 1 = b := ⟨_, rfl⟩
  rw [hb1] at HQ1 ⊢
  rw [hb0] at HR1 ⊢
  clear HW1
  go_loopw [7] (fun x wr => ∃ (j K : Int), x = .int .i64 j ∧ 1 ≤ j ∧ j ≤ 8 ∧ Hid (Fnd s at_ j K) ∧ 0 ≤ K ∧ K ≤ 7 ∧ Hid (wr.heap[b0]? = some (.cells #[.int .i64 0, .int .i64 0, .slice none 0 0] 42 (0, 0))) ∧ Hid (wr.heap[b1]? = some (.cells #[.int .i64 K, .int .i64 0, .slice none 0 0] 42 (0, 0))) ∧ Hid (Below W.heap.size W wr) ∧ W.heap.size + 2 ≤ wr.heap.size) (fun x _ => (8 - intOf x).toNat)
  case atStart => exact ⟨1, 0, rfl, by omega, by omega, Lib.hid (.inl ⟨rfl, fun k h1 h2 => by omega⟩), by omega, by omega, HR1, HQ1, HB1, hz1⟩
  case round =>
    clear HR1 HQ1 HB1 hz1
    obtain ⟨j, K, rfl, hj1, hj8, HF, hK0, hK7, HR, HQ, HB, hz⟩ := hrel
    by_cases hj : j ≤ 7
    · have d1 : decide (j ≤ 7) = true := decide_eq_true hj
      obtain ⟨x, hx⟩ : ∃ x, wrd j = x := ⟨_, rfl⟩
      have WD := d_word23 j (by omega) wr
      rw [hx] at WD
      have hxz : x.size ≤ 5 := by rw [← hx]; exact wrd_size j
      go_wp2_with fail
      refine WD.mono ?_
      rintro e w2 ⟨rfl, hb2⟩
      have hz2 := hb2.size
      have HR2 := Lib.hid ((hb2.block _ (by omega)).trans HR.out)
      have HQ2 := Lib.hid ((hb2.block _ (by omega)).trans HQ.out)
      have HB2 := Lib.hid (HB.out.trans (hb2.mono (by omega)))
      clear WD hb2 HR HQ HB
      by_cases hlen : at_ + x.size ≤ s.size
      · have e1 : decide ((s.size : Int) - (at_ : Int) ≥ (x.size : Int)) = true := decide_eq_true (by omega)
        have e1' : decide ((x.size : Int) ≤ (s.size : Int) - (at_ : Int)) = true := decide_eq_true (by omega)
        have hsub := sub_at s at_ (at_ + x.size) (by omega) hlen
        simp only [Int.natCast_add] at hsub
        have hpe := pre_ext (w := x) hlen
        obtain ⟨y, hy⟩ : ∃ y, s.extract at_ (at_ + x.size) = y := ⟨_, rfl⟩
        rw [hy] at hsub hpe
        have hbl := bl_eq (x := y) (y := x)
        by_cases hyx : y = x
        · rw [decide_eq_true hyx] at hbl
          have HF2 : Hid (Fnd s at_ (j + 1) j) := Lib.hid (Fnd.hit (K := K) (by unfold Wat; rw [hx]; exact hpe.1 hyx) hj1)
          obtain ⟨x0, x1, x2, f0, f1, f2⟩ := bcells HQ2.out
          have HQ3 := Lib.hid (bset (o := 0) HQ2.out (.int .i64 j))
          have HR3 := Lib.hid ((heap_setCell_other w2 ⟨b1, 0, none⟩ b0 (.int .i64 j) (show b0 ≠ b1 by omega)).trans HR2.out)
          have HB3 := Lib.hid (HB2.out.trans ((Below.refl W.heap.size w2).setCell (p := ⟨b1, 0, none⟩) (show W.heap.size ≤ b1 by omega) (.int .i64 j)))
          clear hyx hpe hy HF HQ2 HR2 HB2 hx
          go_wp2_with fail
          go_roundw
          case rel => exact ⟨j + 1, j, rfl, by omega, by omega, HF2, by omega, by omega, HR3, HQ3, HB3, by simp; omega⟩
          case measure => (first | (simp [intOf]; done) | (simp [intOf]; omega) | (simp only [intOf]; omega))
        · rw [decide_eq_false hyx] at hbl
          have HF2 : Hid (Fnd s at_ (j + 1) K) := Lib.hid (HF.out.miss (by unfold Wat; rw [hx]; exact fun h => hyx (hpe.2 h)))
          clear hyx hpe hy HF hx
          go_wp2_with fail
          go_roundw
          case rel => exact ⟨j + 1, K, rfl, by omega, by omega, HF2, hK0, hK7, HR2, HQ2, HB2, by omega⟩
          case measure => (first | (simp [intOf]; done) | (simp [intOf]; omega) | (simp only [intOf]; omega))
      · have e1 : decide ((s.size : Int) - (at_ : Int) ≥ (x.size : Int)) = false := decide_eq_false (by omega)
        have e1' : decide ((x.size : Int) ≤ (s.size : Int) - (at_ : Int)) = false := decide_eq_false (by omega)
        have HF2 : Hid (Fnd s at_ (j + 1) K) := Lib.hid (HF.out.miss (by unfold Wat; rw [hx]; exact pre_long hat hlen))
        clear HF hx
        go_wp2_with fail
        go_roundw
        case rel => exact ⟨j + 1, K, rfl, by omega, by omega, HF2, hK0, hK7, HR2, HQ2, HB2, by omega⟩
        case measure => (first | (simp [intOf]; done) | (simp [intOf]; omega) | (simp only [intOf]; omega))
    · obtain rfl : j = 8 := by omega
      have d1 : decide ((8 : Int) ≤ 7) = false := by decide
      obtain ⟨x0, x1, x2, f0, f1, f2⟩ := bcells HQ.out
      by_cases hK : K = 0
      · subst hK
        have HNO := nbok_fail (b := b0) (x := 0) (y := 0) (za := none) (zn := 0) (zc := 0) HB.out (by omega) (show NB (s.data.toList.drop at_) = none from Gr.N_none (head_word (fun k h1 h2 => by
          rcases HF.out with h | h
          · exact h.2 k h1 h2
          · have := h.1; omega)))
        have FIN := Lib.hid HNO
        have HZ := Lib.hid (s3_at (x := .int .i64 0) (y := .int .i64 0) (z := .slice none 0 0) HR.out)
        obtain ⟨y0, y1, y2, g0, g1, g2⟩ := bcells HR.out
        clear HNO HF HB
        unfold s3 at FIN HZ
        go_wp2_with fail
        refine bodyPost_ret (res_cell_tmp (p := 4) (a := 5) (ty := 42) rfl _ _ _ 42 #[.int .i64 0, .int .i64 0, .slice none 0 0] (0, 0) _ (.int .i64 (-1)) rfl rfl HZ.out Tryz.underlying42 rfl (by kernel_rfl)) rfl ?_
        exact FIN.out
      have hKw : Hid (Wat s at_ K) := Lib.hid (by
        rcases HF.out with h | h
        · exact absurd h.1 hK
        · exact h.2.2)
      have e0 : (K == 0) = false := by rw [beq_eq_false_iff_ne]; exact hK
      obtain ⟨x, hx⟩ : ∃ x, wrd K = x := ⟨_, rfl⟩
      have WD := d_word23 K (by omega) wr
      rw [hx] at WD
      have hxz : x.size ≤ 5 := by rw [← hx]; exact wrd_size K
      have hfs : at_ + x.size ≤ s.size := by
        have := hKw.out
        by_cases h : at_ + x.size ≤ s.size
        · exact h
        · exact absurd (by rw [← hx]; exact this) (pre_long hat h)
      have HX := Lib.hid hx
      clear HF hx
      go_wp2_with fail
      refine WD.mono ?_
      rintro e w2 ⟨rfl, hb2⟩
      have hz2 := hb2.size
      have HR2 := Lib.hid ((hb2.block _ (by omega)).trans HR.out)
      have HQ2 := Lib.hid ((hb2.block _ (by omega)).trans HQ.out)
      have HB2 := Lib.hid (HB.out.trans (hb2.mono (by omega)))
      clear WD hb2 HR HQ HB x0 x1 x2 f0 f1 f2
      obtain ⟨fr, hfr⟩ : ∃ fr, at_ + x.size = fr := ⟨_, rfl⟩
      have hfri : (at_ : Int) + (x.size : Int) = (fr : Int) := by omega
      have HFR := Lib.hid hfr
      have hfs2 : fr ≤ s.size := by omega
      clear hfr hfs
      go_upto_block 2 with fail
      (try rw [hfri])
      go_cut [10] (fun y wx => ∃ t : Nat, y = .int .i64 t ∧ fr ≤ t ∧ t ≤ s.size ∧ Hid (∀ j, fr ≤ j → j < t → 48 ≤ bt s j ∧ bt s j ≤ 57) ∧ Hid (Ends s t) ∧ w2 = wx)
      case first =>
        go_wp2_with fail
        (try rw [hfri])
        go_loopw [10] (fun y wi => ∃ t : Nat, y = .int .i64 t ∧ fr ≤ t ∧ t ≤ s.size ∧ Hid (∀ j, fr ≤ j → j < t → 48 ≤ bt s j ∧ bt s j ≤ 57) ∧ w2 = wi) (fun y _ => s.size - (intOf y).toNat)
        case atStart => exact ⟨fr, by first | rfl | go_num, Nat.le_refl _, hfs2, Lib.hid (fun j h1 h2 => by omega), rfl⟩
        case round =>
          obtain ⟨t, rfl, ht1, ht2, HD, rfl⟩ := hrel
          by_cases hlt : t < s.size
          · have e1 : decide ((t : Int) < (s.size : Int)) = true := decide_eq_true (by omega)
            have e1' : decide (t < s.size) = true := decide_eq_true hlt
            have hix := idx_at s t hlt
            obtain ⟨c, hc⟩ : ∃ c, bt s t = c := ⟨_, rfl⟩
            rw [hc] at hix
            have hbt := bt_lt s t
            rw [hc] at hbt
            by_cases h48 : 48 ≤ c
            · have e2 : decide ((c : Int) ≥ 48) = true := decide_eq_true (by omega)
              have e2' : decide (48 ≤ c) = true := decide_eq_true h48
              have e2'' : decide ((48 : Int) ≤ (c : Int)) = true := decide_eq_true (by omega)
              by_cases h57 : c ≤ 57
              · have e3 : decide ((c : Int) ≤ 57) = true := decide_eq_true (by omega)
                have e3' : decide (c ≤ 57) = true := decide_eq_true h57
                have HD2 : Hid (∀ j, fr ≤ j → j < t + 1 → 48 ≤ bt s j ∧ bt s j ≤ 57) := Lib.hid (fun j h1 h2 => by
                  by_cases e : j = t
                  · rw [e, hc]; omega
                  · exact HD.out j h1 (by omega))
                clear hc HD
                go_wp2_with fail
                go_roundw
                case rel => exact ⟨t + 1, by go_num, by omega, by omega, HD2, by first | rfl | trivial⟩
                case measure => (first | (simp [intOf]; done) | (simp [intOf]; omega) | (simp only [intOf]; omega))
              · have e3 : decide ((c : Int) ≤ 57) = false := decide_eq_false (by omega)
                have e3' : decide (c ≤ 57) = false := decide_eq_false h57
                have HE : Hid (Ends s t) := Lib.hid (.inr ⟨hlt, by rw [hc]; omega⟩)
                clear hc
                go_wp2_with fail
                go_meet
                exact ⟨t, by first | rfl | go_num, ht1, ht2, HD, HE, rfl⟩
            · have e2 : decide ((c : Int) ≥ 48) = false := decide_eq_false (by omega)
              have e2' : decide (48 ≤ c) = false := decide_eq_false h48
              have e2'' : decide ((48 : Int) ≤ (c : Int)) = false := decide_eq_false (by omega)
              have HE : Hid (Ends s t) := Lib.hid (.inr ⟨hlt, by rw [hc]; omega⟩)
              clear hc
              go_wp2_with fail
              go_meet
              exact ⟨t, by first | rfl | go_num, ht1, ht2, HD, HE, rfl⟩
          · obtain rfl : t = s.size := by omega
            have e1 : decide ((s.size : Int) < (s.size : Int)) = false := decide_eq_false (by omega)
            go_wp2_with fail
            go_meet
            exact ⟨s.size, by first | rfl | go_num, ht1, ht2, HD, Lib.hid (.inl rfl), rfl⟩
      case rest =>
        obtain ⟨t, rfl, ht1, ht2, HD, HE, rfl⟩ := hcut
        have hsub := sub_at s fr t ht1 ht2
        obtain ⟨dg, hdg⟩ : ∃ dg, s.extract fr t = dg := ⟨_, rfl⟩
        rw [hdg] at hsub
        have hdz : dg.size ≤ 5000 := by rw [← hdg, ByteArray.size_extract]; omega
        have RN := ref_num dg hdz w2
        have hkr : 1 ≤ K ∧ K ≤ 7 := by omega
        have hfe : fr = at_ + (wrd K).size := by rw [HX.out]; exact HFR.out.symm
        have hwl := wrd_len hkr
        rw [← Lib.size_eq] at hwl
        have hat2 : at_ < t := by omega
        have HYES := Lib.hid (fun (h : IsN dg) => (by rw [← hdg]; exact head_yes hkr hKw.out hfe ht1 HE.out (by rw [hdg]; exact h) : HB (s.data.toList.drop at_) = some (K, ((vl dg dg.size : Nat) : Int), s.data.toList.drop t)))
        have HNO := Lib.hid (fun (h : ¬ IsN dg) => (head_num hkr hKw.out hfe ht1 ht2 HE.out HD.out (by rw [hdg]; exact h) : HB (s.data.toList.drop at_) = none))
        obtain ⟨x0, x1, x2, f0, f1, f2⟩ := bcells HQ2.out
        clear hdg hfe hwl HD HE hKw HX HFR hfri
        go_wp2_with fail
        refine RN.mono ?_
        rintro e w2' ⟨rfl, hcase⟩
        clear RN
        rcases hcase with ⟨hn, rfl⟩ | ⟨hn, rfl⟩
        · have HQ3 := bset (o := 1) HQ2.out (.int .i64 (-1))
          have HR3 := (heap_setCell_other w2 ⟨b1, 1, none⟩ b0 (.int .i64 (-1)) (show b0 ≠ b1 by omega)).trans HR2.out
          have HB3 := HB2.out.trans ((Below.refl W.heap.size w2).setCell (p := ⟨b1, 1, none⟩) (show W.heap.size ≤ b1 by omega) (.int .i64 (-1)))
          obtain ⟨w3, hw3⟩ : ∃ w3, w2.setCell ⟨b1, 1, none⟩ (.int .i64 (-1)) = w3 := ⟨_, rfl⟩
          rw [hw3] at HQ3 HR3 HB3
          have FIN := Lib.hid (nbok_fail (b := b0) (x := K) (y := -1) (za := none) (zn := 0) (zc := 0) HB3 (by omega) (show NB (s.data.toList.drop at_) = none from Gr.N_none (HNO.out hn)))
          have HZ := Lib.hid (s3_at (x := .int .i64 K) (y := .int .i64 (-1)) (z := .slice none 0 0) HR3)
          obtain ⟨y0, y1, y2, g0, g1, g2⟩ := bcells HR3
          have HQ4 := bcells HQ3
          obtain ⟨z0, z1, z2, -, -, -⟩ := HQ4
          clear HQ3 HR3 HB3 HNO HYES hn
          unfold s3 at FIN HZ
          go_wp2_with fail
          refine bodyPost_ret (res_cell_tmp (p := 4) (a := 5) (ty := 42) rfl _ _ _ 42 #[.int .i64 K, .int .i64 (-1), .slice none 0 0] (0, 0) _ (.int .i64 (-1)) rfl rfl HZ.out Tryz.underlying42 rfl (by kernel_rfl)) rfl ?_
          exact FIN.out
        · obtain ⟨m, hm⟩ : ∃ m : Nat, vl dg dg.size = m := ⟨_, rfl⟩
          have HHB := Lib.hid (HYES.out hn)
          rw [hm] at HHB ⊢
          have HQ3 := bset (o := 1) HQ2.out (.int .i64 (m : Int))
          have HR3 := (heap_setCell_other w2 ⟨b1, 1, none⟩ b0 (.int .i64 (m : Int)) (show b0 ≠ b1 by omega)).trans HR2.out
          have HB3 := HB2.out.trans ((Below.refl W.heap.size w2).setCell (p := ⟨b1, 1, none⟩) (show W.heap.size ≤ b1 by omega) (.int .i64 (m : Int)))
          have hz3 : (w2.setCell ⟨b1, 1, none⟩ (.int .i64 (m : Int))).heap.size = w2.heap.size := by simp
          obtain ⟨w3, hw3⟩ : ∃ w3, w2.setCell ⟨b1, 1, none⟩ (.int .i64 (m : Int)) = w3 := ⟨_, rfl⟩
          rw [hw3] at HQ3 HR3 HB3 hz3
          have HQ3 : w3.heap[b1]? = some (.cells #[.int .i64 K, .int .i64 (m : Int), .slice none 0 0] 42 (0, 0)) := HQ3
          obtain ⟨y0, y1, y2, g0, g1, g2⟩ := bcells HR3
          obtain ⟨z0, z1, z2, h0, h1, h2⟩ := bcells HQ3
          have HQ3 := Lib.hid HQ3
          have HR3 := Lib.hid HR3
          have HB3 := Lib.hid HB3
          have em : decide ((m : Int) < 0) = false := decide_eq_false (by omega)
          clear HYES HNO hn hm HQ2 HR2 HB2
          by_cases hop : t < s.size ∧ bt s t = 40
          · obtain ⟨hlt, h40⟩ := hop
            have e1 : ((t : Int) == (s.size : Int)) = false := by rw [beq_eq_false_iff_ne]; omega
            have e1' : (t == s.size) = false := by rw [beq_eq_false_iff_ne]; omega
            have hix := idx_at s t hlt
            rw [h40] at hix
            have HOP := Lib.hid (nb_open HHB.out hlt h40)
            obtain ⟨st, hst⟩ : ∃ st, t + 1 = st := ⟨_, rfl⟩
            have HH40 := Lib.hid h40
            rw [hst] at HOP
            clear h40 HHB
            go_upto_block 4 with fail
            clear x0 x1 x2 f0 f1 f2 y0 y1 y2 g0 g1 g2 z0 z1 z2 h0 h1 h2 hix hw3 e1 e1'
            go_cut [10] (fun y wx => ∃ (q : Nat) (l : List Nd) (v : Value), y = .int .i64 q ∧ t < q ∧ q ≤ s.size ∧ Hid (SB (s.data.toList.drop st) = some (mkF l .nil, s.data.toList.drop q)) ∧ Hid (wx.heap[b0]? = some (.cells #[.int .i64 0, .int .i64 0, .slice none 0 0] 42 (0, 0))) ∧ Hid (wx.heap[b1]? = some (.cells #[.int .i64 K, .int .i64 (m : Int), v] 42 (0, 0))) ∧ Hid (OwnT wx 0 (W.heap.size + 2) v l) ∧ Hid (Below W.heap.size W wx) ∧ W.heap.size + 2 ≤ wx.heap.size)
            case first =>
              go_wp2_with fail
              go_loopw [10] (fun y wr => ∃ (q : Nat) (l : List Nd) (v : Value), y = .int .i64 q ∧ t ≤ q ∧ q ≤ s.size ∧ Hid ((l = [] ∧ q + 1 = st) ∨ (l ≠ [] ∧ t < q ∧ SB (s.data.toList.drop st) = rstB l (s.data.toList.drop q))) ∧ Hid (wr.heap[b0]? = some (.cells #[.int .i64 0, .int .i64 0, .slice none 0 0] 42 (0, 0))) ∧ Hid (wr.heap[b1]? = some (.cells #[.int .i64 K, .int .i64 (m : Int), v] 42 (0, 0))) ∧ Hid (OwnT wr 0 (W.heap.size + 2) v l) ∧ Hid (Below W.heap.size W wr) ∧ W.heap.size + 2 ≤ wr.heap.size ∧ Hid (l.length ≤ q)) (fun y _ => s.size - (intOf y).toNat)
              case atStart => exact ⟨t, [], _, by first | rfl | go_num, Nat.le_refl _, ht2, Lib.hid (.inl ⟨rfl, hst⟩), HR3, HQ3, Lib.hid (OwnT.nil _ _ _), HB3, by omega, Lib.hid (Nat.zero_le _)⟩
              case round =>
                clear HR3 HQ3 HB3 hz3
                obtain ⟨q, l, v, rfl, htq, hqs, HS, HR, HQ, HO, HB, hz, HLL⟩ := hrel
                obtain ⟨va, vc, rfl⟩ := HO.out.form'
                obtain ⟨x0, x1, x2, f0, f1, f2⟩ := bcells HQ.out
                by_cases hl : l = []
                · subst hl
                  have hq1 : q + 1 = st := by
                    rcases HS.out with h | h
                    · exact h.2
                    · exact absurd rfl h.1
                  obtain rfl : q = t := by omega
                  have HAF := Lib.hid (show SB (s.data.toList.drop st) = aftB [] (SB (s.data.toList.drop (q + 1))) by rw [hq1]; exact aftB_nil _)
                  have e1 : decide ((q : Int) < (s.size : Int)) = true := decide_eq_true (by omega)
                  have e1' : decide (q < s.size) = true := decide_eq_true hlt
                  have hix := idx_at s q hlt
                  rw [HH40.out] at hix
                  have x2' : wr.cell? ⟨b1, 2, none⟩ = some (.slice va 0 vc) := x2
                  obtain ⟨l, hl⟩ : ∃ l : List Nd, [] = l := ⟨_, rfl⟩
                  have hll0 : l.length = 0 := by rw [← hl]; rfl
                  rw [hl] at HAF HO HLL x2
                  have HO : Hid (OwnT wr 0 (W.heap.size + 2) (.slice va 0 vc) l) := Lib.hid (by have := HO.out; rw [hll0] at this; exact this)
                  clear x2 hl HS
                  have x2 := x2'
                  clear x2'
                  have C := IH.out (q + 1) wr (by omega) (by omega)
                  rw [Int.natCast_add] at C
                  go_wp2_with fail
                  refine C.mono ?_
                  rintro e w5 ⟨hb5, hcase⟩
                  have hz5 := hb5.size
                  have HR5 := Lib.hid ((hb5.block _ (by omega)).trans HR.out)
                  have HQ5 := Lib.hid ((hb5.block _ (by omega)).trans HQ.out)
                  have HB5 := Lib.hid (HB.out.trans (hb5.mono (by omega)))
                  have HO5 := Lib.hid (HO.out.below hb5)
                  have hownl := HO.out.ownLt
                  clear C hb5 HR HQ HB HO x0 x1 x2 f0 f1 f2
                  rcases hcase with ⟨hnb, px, py, pa, pn, pc, rfl⟩ | ⟨k', m', ks', q', u, hnb, hqq, hqs', rfl, hK5⟩
                  · obtain ⟨w6, hw6⟩ : ∃ w6, w5.alloc (.cells #[.int .i64 px, .int .i64 py, .slice pa pn pc] 42) = w6 := ⟨_, rfl⟩
                    have hb6 : Below w5.heap.size w5 w6 := by rw [← hw6]; exact (Below.refl _ _).alloc (Nat.le_refl _) _
                    have HR6 := (hb6.block _ (by omega)).trans HR5.out
                    have HQ6 := (hb6.block _ (by omega)).trans HQ5.out
                    obtain ⟨x0, x1, x2, f0, f1, f2⟩ := bcells HQ6
                    obtain ⟨y0, y1, y2, g0, g1, g2⟩ := bcells HR6
                    have HZ := Lib.hid (s3_at (x := .int .i64 K) (y := .int .i64 (m : Int)) (z := .slice va 0 vc) HR6)
                    have FIN := Lib.hid (nbok_fail (b := b0) (x := K) (y := (m : Int)) (za := va) (zn := 0) (zc := vc) (HB5.out.trans (hb6.mono (by omega))) (by omega) (nb_none (by rw [hst]; exact HOP.out) (by rw [hst, HAF.out]; exact aftB_none hnb)))
                    have HW6 := Lib.hid hw6
                    clear hw6 hb6 HR6 HQ6 HR5 HQ5 HB5 HO5 hnb HAF hownl
                    unfold s3 at FIN HZ
                    go_upto_region 21 with fail
                    rw [HW6.out]
                    go_wp2_with fail
                    refine bodyPost_ret (res_cell_tmp (p := 4) (a := 5) (ty := 42) rfl _ _ _ 42 #[.int .i64 K, .int .i64 (m : Int), .slice va 0 vc] (0, 0) _ (.int .i64 (-1)) rfl rfl HZ.out Tryz.underlying42 rfl (by kernel_rfl)) rfl ?_
                    exact FIN.out
                  · obtain ⟨ua, un, uc, rfl⟩ : ∃ a n c, u = .slice a n c := by
                      obtain ⟨a, c, rfl, _⟩ := hK5
                      exact ⟨_, _, _, rfl⟩
                    obtain ⟨w6, hw6, c0, c1, c2, hB6, hs6⟩ := box3 w5 k' m' (.slice ua un uc) 42
                    have hO6 := HO5.out.below hB6
                    have HR6 := Lib.hid ((hB6.block _ (by omega)).trans HR5.out)
                    have HQ6 := Lib.hid ((hB6.block _ (by omega)).trans HQ5.out)
                    have HB6 := Lib.hid (HB5.out.trans (hB6.mono (by omega)))
                    have hK6 : KidsS w6 (fun b => wr.heap.size ≤ b ∧ b < w5.heap.size) (.slice ua un uc) ks' := hK5.carry (fun b hb => ⟨hb, hB6.block b hb.2⟩)
                    have hoff : ∀ b, (wr.heap.size ≤ b ∧ b < w5.heap.size) → offB w6 0 (W.heap.size + 2) (.slice va 0 vc) b := fun b hb => ⟨by omega, fun e => by have := hownl b e; omega, .inr (by omega)⟩
                    have hlen6 : l.length ≤ 1000000 := by have := HLL.out; omega
                    have hsz6 : W.heap.size + 2 ≤ w6.heap.size := by omega
                    have HST := Lib.hid (HAF.out.trans (aftB_step hnb))
                    have HLL2 : Hid ((l ++ [(⟨k', m', ks'⟩ : Nd)]).length ≤ q') := Lib.hid (by
                      have := HLL.out
                      rw [List.length_append]; simp; omega)
                    have e6 : decide ((q' : Int) < 0) = false := decide_eq_false (by omega)
                    obtain ⟨x0, x1, x2, f0, f1, f2⟩ := bcells HQ6.out
                    have HW6 := Lib.hid hw6
                    clear hw6 hB6 HR5 HQ5 HB5 HO5 hnb HAF hownl hK5
                    go_upto_region 21 with fail
                    rw [← HW6.out]
                    go_wp2_with (at_builtin; refine append_t1 (d := ⟨k', m', ks'⟩) rfl _ _ rfl rfl hO6 (by first | rfl | (rw [hs6]; rfl)) hK6 hoff hsz6 hlen6 ?_; intro v7 w7 hO7 hb7; obtain ⟨a7, n7, d7, rfl⟩ := hO7.form; have HQ7 := (hb7.block b1 (by omega)).trans HQ6.out; have HR7 := Lib.hid ((hb7.block b0 (by omega)).trans HR6.out); have HB7 := Lib.hid (HB6.out.trans (hb7.mono (by omega))); have hz7 := hb7.size; have HQ8 := Lib.hid (bset (o := 2) HQ7 (.slice a7 n7 d7)); have HR8 := Lib.hid ((heap_setCell_other w7 ⟨b1, 2, none⟩ b0 (.slice a7 n7 d7) (show b0 ≠ b1 by omega)).trans HR7.out); have HO8 := Lib.hid (hO7.keep (But.set w7 b1 2 (.slice a7 n7 d7)) (Nat.zero_le _) (show b1 < W.heap.size + 2 by omega)); have HB8 := Lib.hid (HB7.out.trans ((Below.refl W.heap.size w7).setCell (p := ⟨b1, 2, none⟩) (show W.heap.size ≤ b1 by omega) (.slice a7 n7 d7))); obtain ⟨p0, p1, p2, s0, s1, s2⟩ := bcells HQ7; clear hO7 hb7 HQ7)
                    go_roundw
                    case rel => exact ⟨q', _, _, by first | rfl | go_num, by omega, hqs', Lib.hid (.inr ⟨by simp, by omega, HST.out⟩), HR8, HQ8, HO8, HB8, by simp; omega, HLL2⟩
                    case measure => (first | (simp [intOf]; done) | (simp [intOf]; omega) | (simp only [intOf]; omega))
                · have hqt : t < q ∧ SB (s.data.toList.drop st) = rstB l (s.data.toList.drop q) := by
                    rcases HS.out with h | h
                    · exact absurd h.1 hl
                    · exact h.2
                  obtain ⟨n, hn⟩ : ∃ n, l.length = n := ⟨_, rfl⟩
                  have hn0 : n ≠ 0 := fun e => hl (List.length_eq_zero_iff.1 (by omega))
                  have en : ((n : Int) == 0) = false := by rw [beq_eq_false_iff_ne]; omega
                  have en' : (n == 0) = false := by rw [beq_eq_false_iff_ne]; exact hn0
                  rw [hn] at x2 HO HQ
                  have HRS := Lib.hid hqt.2
                  have htq2 := hqt.1
                  have HHN := Lib.hid hn
                  have HL0 := Lib.hid hl
                  clear HS hqt hn hl
                  by_cases hlq : q < s.size
                  · have e1 : decide ((q : Int) < (s.size : Int)) = true := decide_eq_true (by omega)
                    have e1' : decide (q < s.size) = true := decide_eq_true hlq
                    have hix := idx_at s q hlq
                    obtain ⟨c, hc⟩ : ∃ c, bt s q = c := ⟨_, rfl⟩
                    rw [hc] at hix
                    by_cases h44 : c = 44
                    · have HAF := Lib.hid (HRS.out.trans (rst_comma hlq (by rw [hc]; exact h44)))
                      subst h44
                      clear hc HRS
                      have C := IH.out (q + 1) wr (by omega) (by omega)
                      rw [Int.natCast_add] at C
                      go_wp2_with fail
                      refine C.mono ?_
                      rintro e w5 ⟨hb5, hcase⟩
                      have hz5 := hb5.size
                      have HR5 := Lib.hid ((hb5.block _ (by omega)).trans HR.out)
                      have HQ5 := Lib.hid ((hb5.block _ (by omega)).trans HQ.out)
                      have HB5 := Lib.hid (HB.out.trans (hb5.mono (by omega)))
                      have HO5 := Lib.hid (HO.out.below hb5)
                      have hownl := HO.out.ownLt
                      clear C hb5 HR HQ HB HO x0 x1 x2 f0 f1 f2
                      rcases hcase with ⟨hnb, px, py, pa, pn, pc, rfl⟩ | ⟨k', m', ks', q', u, hnb, hqq, hqs', rfl, hK5⟩
                      · obtain ⟨w6, hw6⟩ : ∃ w6, w5.alloc (.cells #[.int .i64 px, .int .i64 py, .slice pa pn pc] 42) = w6 := ⟨_, rfl⟩
                        have hb6 : Below w5.heap.size w5 w6 := by rw [← hw6]; exact (Below.refl _ _).alloc (Nat.le_refl _) _
                        have HR6 := (hb6.block _ (by omega)).trans HR5.out
                        have HQ6 := (hb6.block _ (by omega)).trans HQ5.out
                        obtain ⟨x0, x1, x2, f0, f1, f2⟩ := bcells HQ6
                        obtain ⟨y0, y1, y2, g0, g1, g2⟩ := bcells HR6
                        have HZ := Lib.hid (s3_at (x := .int .i64 K) (y := .int .i64 (m : Int)) (z := .slice va n vc) HR6)
                        have FIN := Lib.hid (nbok_fail (b := b0) (x := K) (y := (m : Int)) (za := va) (zn := n) (zc := vc) (HB5.out.trans (hb6.mono (by omega))) (by omega) (nb_none (by rw [hst]; exact HOP.out) (by rw [hst, HAF.out]; exact aftB_none hnb)))
                        have HW6 := Lib.hid hw6
                        clear hw6 hb6 HR6 HQ6 HR5 HQ5 HB5 HO5 hnb HAF hownl
                        unfold s3 at FIN HZ
                        go_upto_region 21 with fail
                        rw [HW6.out]
                        go_wp2_with fail
                        refine bodyPost_ret (res_cell_tmp (p := 4) (a := 5) (ty := 42) rfl _ _ _ 42 #[.int .i64 K, .int .i64 (m : Int), .slice va n vc] (0, 0) _ (.int .i64 (-1)) rfl rfl HZ.out Tryz.underlying42 rfl (by kernel_rfl)) rfl ?_
                        exact FIN.out
                      · obtain ⟨ua, un, uc, rfl⟩ : ∃ a n c, u = .slice a n c := by
                          obtain ⟨a, c, rfl, _⟩ := hK5
                          exact ⟨_, _, _, rfl⟩
                        obtain ⟨w6, hw6, c0, c1, c2, hB6, hs6⟩ := box3 w5 k' m' (.slice ua un uc) 42
                        have hO6 := HO5.out.below hB6
                        have HR6 := Lib.hid ((hB6.block _ (by omega)).trans HR5.out)
                        have HQ6 := Lib.hid ((hB6.block _ (by omega)).trans HQ5.out)
                        have HB6 := Lib.hid (HB5.out.trans (hB6.mono (by omega)))
                        have hK6 : KidsS w6 (fun b => wr.heap.size ≤ b ∧ b < w5.heap.size) (.slice ua un uc) ks' := hK5.carry (fun b hb => ⟨hb, hB6.block b hb.2⟩)
                        have hoff : ∀ b, (wr.heap.size ≤ b ∧ b < w5.heap.size) → offB w6 0 (W.heap.size + 2) (.slice va n vc) b := fun b hb => ⟨by omega, fun e => by have := hownl b e; omega, .inr (by omega)⟩
                        have hlen6 : l.length ≤ 1000000 := by have := HLL.out; omega
                        have hsz6 : W.heap.size + 2 ≤ w6.heap.size := by omega
                        have HST := Lib.hid (HAF.out.trans (aftB_step hnb))
                        have HLL2 : Hid ((l ++ [(⟨k', m', ks'⟩ : Nd)]).length ≤ q') := Lib.hid (by
                          have := HLL.out
                          rw [List.length_append]; simp; omega)
                        have e6 : decide ((q' : Int) < 0) = false := decide_eq_false (by omega)
                        obtain ⟨x0, x1, x2, f0, f1, f2⟩ := bcells HQ6.out
                        have HW6 := Lib.hid hw6
                        clear hw6 hB6 HR5 HQ5 HB5 HO5 hnb HAF hownl hK5
                        go_upto_region 21 with fail
                        rw [← HW6.out]
                        go_wp2_with (at_builtin; refine append_t1 (d := ⟨k', m', ks'⟩) rfl _ _ rfl rfl hO6 (by first | rfl | (rw [hs6]; rfl)) hK6 hoff hsz6 hlen6 ?_; intro v7 w7 hO7 hb7; obtain ⟨a7, n7, d7, rfl⟩ := hO7.form; have HQ7 := (hb7.block b1 (by omega)).trans HQ6.out; have HR7 := Lib.hid ((hb7.block b0 (by omega)).trans HR6.out); have HB7 := Lib.hid (HB6.out.trans (hb7.mono (by omega))); have hz7 := hb7.size; have HQ8 := Lib.hid (bset (o := 2) HQ7 (.slice a7 n7 d7)); have HR8 := Lib.hid ((heap_setCell_other w7 ⟨b1, 2, none⟩ b0 (.slice a7 n7 d7) (show b0 ≠ b1 by omega)).trans HR7.out); have HO8 := Lib.hid (hO7.keep (But.set w7 b1 2 (.slice a7 n7 d7)) (Nat.zero_le _) (show b1 < W.heap.size + 2 by omega)); have HB8 := Lib.hid (HB7.out.trans ((Below.refl W.heap.size w7).setCell (p := ⟨b1, 2, none⟩) (show W.heap.size ≤ b1 by omega) (.slice a7 n7 d7))); obtain ⟨p0, p1, p2, s0, s1, s2⟩ := bcells HQ7; clear hO7 hb7 HQ7)
                        go_roundw
                        case rel => exact ⟨q', _, _, by first | rfl | go_num, by omega, hqs', Lib.hid (.inr ⟨by simp, by omega, HST.out⟩), HR8, HQ8, HO8, HB8, by simp; omega, HLL2⟩
                        case measure => (first | (simp [intOf]; done) | (simp [intOf]; omega) | (simp only [intOf]; omega))
                    · have HEN := Lib.hid (HRS.out.trans (rst_end (l := l) (.inr ⟨hlq, by rw [hc]; exact h44⟩)))
                      have e4 : ((c : Int) == 44) = false := by rw [beq_eq_false_iff_ne]; omega
                      have e4' : (c == 44) = false := by rw [beq_eq_false_iff_ne]; exact h44
                      clear hc HRS
                      by_cases h4 : c = 40
                      · subst h4
                        go_wp2_with fail
                        go_meet
                        exact ⟨q, l, _, by first | rfl | go_num, htq2, hqs, HEN, HR, HQ, HO, HB, hz⟩
                      · have e5 : ((c : Int) == 40) = false := by rw [beq_eq_false_iff_ne]; omega
                        have e5' : (c == 40) = false := by rw [beq_eq_false_iff_ne]; exact h4
                        go_wp2_with fail
                        go_meet
                        exact ⟨q, l, _, by first | rfl | go_num, htq2, hqs, HEN, HR, HQ, HO, HB, hz⟩
                  · obtain rfl : q = s.size := by omega
                    have e1 : decide ((s.size : Int) < (s.size : Int)) = false := decide_eq_false (by omega)
                    have HEN := Lib.hid (HRS.out.trans (rst_end (l := l) (.inl rfl)))
                    clear HRS
                    go_wp2_with fail
                    go_meet
                    exact ⟨s.size, l, _, by first | rfl | go_num, htq2, hqs, HEN, HR, HQ, HO, HB, hz⟩
            case rest =>
              clear HR3 HQ3 HB3 hz3
              obtain ⟨q, l, v, rfl, htq, hqs, HS, HR, HQ, HO, HB, hz⟩ := hcut
              obtain ⟨va, vn, vc, rfl⟩ := HO.out.form
              obtain ⟨x0, x1, x2, f0, f1, f2⟩ := bcells HQ.out
              obtain ⟨y0, y1, y2, g0, g1, g2⟩ := bcells HR.out
              have HZ := Lib.hid (s3_at (x := .int .i64 K) (y := .int .i64 (m : Int)) (z := .slice va vn vc) HR.out)
              have HKS := Lib.hid (OwnT.kidsS (f := mkF l .nil) (by rw [mkF_top]; show OwnT _ _ _ _ (l ++ []); rw [List.append_nil]; exact HO.out))
              rw [← hst] at HOP HS
              by_cases hcl : q < s.size ∧ bt s q = 41
              · obtain ⟨hlq, h41⟩ := hcl
                have hix := idx_at s q hlq
                rw [h41] at hix
                have e1 : ((q : Int) == (s.size : Int)) = false := by rw [beq_eq_false_iff_ne]; omega
                have e1' : (q == s.size) = false := by rw [beq_eq_false_iff_ne]; omega
                have FIN := Lib.hid (nbok_done (b := b0) (q := q + 1) HB.out (by omega) (nb_close HOP.out HS.out hlq h41) (by omega) (by omega) HKS.out (fun x hx => ⟨by omega, hx.1, by omega⟩))
                simp only [Int.natCast_add, Int.natCast_one] at FIN
                clear h41 HOP HS HR HQ HO HB HKS
                unfold s3 at FIN HZ
                go_wp2_with fail
                refine bodyPost_ret (res_cell_tmp (p := 4) (a := 5) (ty := 42) rfl _ _ _ 42 #[.int .i64 K, .int .i64 (m : Int), .slice va vn vc] (0, 0) _ (.int .i64 ((q : Int) + 1)) rfl rfl HZ.out Tryz.underlying42 rfl (by kernel_rfl)) rfl ?_
                exact FIN.out
              · have FIN := Lib.hid (nbok_fail (b := b0) (x := K) (y := (m : Int)) (za := va) (zn := vn) (zc := vc) HB.out (by omega) (nb_lost HOP.out HS.out (by
                  by_cases h : q < s.size
                  · exact .inr ⟨h, fun e => hcl ⟨h, e⟩⟩
                  · exact .inl (by omega))))
                clear HOP HS HR HQ HO HB HKS
                unfold s3 at FIN HZ
                by_cases hlq : q < s.size
                · have hix := idx_at s q hlq
                  obtain ⟨c, hc⟩ : ∃ c, bt s q = c := ⟨_, rfl⟩
                  rw [hc] at hix
                  have hc41 : c ≠ 41 := fun e => hcl ⟨hlq, by rw [hc, e]⟩
                  have e1 : ((q : Int) == (s.size : Int)) = false := by rw [beq_eq_false_iff_ne]; omega
                  have e1' : (q == s.size) = false := by rw [beq_eq_false_iff_ne]; omega
                  have e2 : ((c : Int) != 41) = true := by simp [bne, beq_eq_false_iff_ne]; omega
                  have e2' : (c != 41) = true := by simp [bne, beq_eq_false_iff_ne]; omega
                  have e3 : ((c : Int) == 41) = false := by rw [beq_eq_false_iff_ne]; omega
                  clear hc hcl
                  go_wp2_with fail
                  refine bodyPost_ret (res_cell_tmp (p := 4) (a := 5) (ty := 42) rfl _ _ _ 42 #[.int .i64 K, .int .i64 (m : Int), .slice va vn vc] (0, 0) _ (.int .i64 (-1)) rfl rfl HZ.out Tryz.underlying42 rfl (by kernel_rfl)) rfl ?_
                  exact FIN.out
                · obtain rfl : q = s.size := by omega
                  have e1 : ((s.size : Int) == (s.size : Int)) = true := by simp
                  clear hcl
                  go_wp2_with fail
                  refine bodyPost_ret (res_cell_tmp (p := 4) (a := 5) (ty := 42) rfl _ _ _ 42 #[.int .i64 K, .int .i64 (m : Int), .slice va vn vc] (0, 0) _ (.int .i64 (-1)) rfl rfl HZ.out Tryz.underlying42 rfl (by kernel_rfl)) rfl ?_
                  exact FIN.out
          · have FIN := Lib.hid (nbok_done (b := b0) (v := .slice none 0 0) (ks := .nil) (S := fun _ => False) HB3.out (by omega) (nb_leaf HHB.out (by
              by_cases h : t < s.size
              · exact .inr ⟨h, fun e => hop ⟨h, e⟩⟩
              · exact .inl (by omega))) hat2 ht2 ⟨none, 0, rfl, Nat.le_refl _, by unfold maxLen; omega, .inl rfl⟩ (fun _ h => h.elim))
            have HZ := Lib.hid (s3_at (x := .int .i64 K) (y := .int .i64 (m : Int)) (z := .slice none 0 0) HR3.out)
            clear HHB HB3 HR3 HQ3
            unfold s3 at FIN HZ
            by_cases hlt : t < s.size
            · have hix := idx_at s t hlt
              obtain ⟨c, hc⟩ : ∃ c, bt s t = c := ⟨_, rfl⟩
              rw [hc] at hix
              have hc40 : c ≠ 40 := fun e => hop ⟨hlt, by rw [hc, e]⟩
              have e1 : ((t : Int) == (s.size : Int)) = false := by rw [beq_eq_false_iff_ne]; omega
              have e1' : (t == s.size) = false := by rw [beq_eq_false_iff_ne]; omega
              have e2 : ((c : Int) != 40) = true := by simp [bne, beq_eq_false_iff_ne]; omega
              have e2' : (c != 40) = true := by simp [bne, beq_eq_false_iff_ne]; omega
              have e3 : ((c : Int) == 40) = false := by rw [beq_eq_false_iff_ne]; omega
              clear hc hop
              go_wp2_with fail
              refine bodyPost_ret (res_cell_tmp (p := 4) (a := 5) (ty := 42) rfl _ _ _ 42 #[.int .i64 K, .int .i64 (m : Int), .slice none 0 0] (0, 0) _ (.int .i64 t) rfl rfl HZ.out Tryz.underlying42 rfl (by kernel_rfl)) rfl ?_
              exact FIN.out
            · obtain rfl : t = s.size := by omega
              have e1 : ((s.size : Int) == (s.size : Int)) = true := by simp
              clear hop
              go_wp2_with fail
              refine bodyPost_ret (res_cell_tmp (p := 4) (a := 5) (ty := 42) rfl _ _ _ 42 #[.int .i64 K, .int .i64 (m : Int), .slice none 0 0] (0, 0) _ (.int .i64 s.size) rfl rfl HZ.out Tryz.underlying42 rfl (by kernel_rfl)) rfl ?_
              exact FIN.out
end Go.Proofs.YtafmiilkdhdngaaGreatDoor
