/- WideTells: any two numbers' sum, difference and order, and any two small ones' product. -/
import Derived.Test.YtlmaacbjbmhogaaLWideShifts
import Derived.Deep.DeepCutAuto
namespace Go.Proofs.Ytlmaacbjbmhogaa
open Go.ChangeShapes Go.WideShapes Go.ChangeAt Go.RowKit
set_option linter.unusedVariables false
theorem neq_D2 (n : Nat) (w : World) : (binOp .neq 27 (.agg (D n)) (.agg (D n))).run Try.prog w = .ok (.bool false) w := by
  have E := eql_D_same (m := n) (n := n) rfl w
  go_simp
theorem tells_start (W : World) (h l g m : Int) : ∃ w0 : World, w0 = (W.alloc (.cells #[.int .u64 h, .int .u64 l] 23)).alloc (.cells #[.int .u64 g, .int .u64 m] 23) ∧ w0.cell? ⟨W.heap.size, 0, none⟩ = some (.int .u64 h) ∧ w0.cell? ⟨W.heap.size, 1, none⟩ = some (.int .u64 l) ∧ w0.cell? ⟨W.heap.size + 1, 0, none⟩ = some (.int .u64 g) ∧ w0.cell? ⟨W.heap.size + 1, 1, none⟩ = some (.int .u64 m) ∧ Below W.heap.size W w0 ∧ w0.heap.size = W.heap.size + 1 + 1 := by
  obtain ⟨w1, h1, a0, a1, b1, s1⟩ := box2u W h l 23
  obtain ⟨w2, h2, c0, c1, b2, s2⟩ := box2u w1 g m 23
  have lt : W.heap.size < w1.heap.size := by omega
  rw [s1] at c0 c1
  exact ⟨w2, by rw [h2, h1], (b2.cell (p := ⟨W.heap.size, 0, none⟩) lt).trans a0, (b2.cell (p := ⟨W.heap.size, 1, none⟩) lt).trans a1, c0, c1, b1.trans (b2.mono b1.size), by omega⟩
theorem tells_two (w0 : World) (X : Nat) (h l g m : Int) {a b c d : Value} (hs : w0.heap.size = X + 1 + 1) (a0 : w0.cell? ⟨X, 0, none⟩ = some a) (a1 : w0.cell? ⟨X, 1, none⟩ = some b) (a2 : w0.cell? ⟨X + 1, 0, none⟩ = some c) (a3 : w0.cell? ⟨X + 1, 1, none⟩ = some d) :
    ∃ w2 : World, w2 = ((w0.alloc (.cells #[.int .u64 h, .int .u64 l] 25)).alloc (.cells #[.int .u64 g, .int .u64 m] 25)).drew ∧ w2.cell? ⟨X + 1 + 1, 0, none⟩ = some (.int .u64 h) ∧ w2.cell? ⟨X + 1 + 1, 1, none⟩ = some (.int .u64 l) ∧ w2.cell? ⟨X + 1 + 1 + 1, 0, none⟩ = some (.int .u64 g) ∧ w2.cell? ⟨X + 1 + 1 + 1, 1, none⟩ = some (.int .u64 m) ∧
      w2.cell? ⟨X, 0, none⟩ = some a ∧ w2.cell? ⟨X, 1, none⟩ = some b ∧ w2.cell? ⟨X + 1, 0, none⟩ = some c ∧ w2.cell? ⟨X + 1, 1, none⟩ = some d ∧ Below w0.heap.size w0 w2 ∧ X + 1 < w2.heap.size := by
  obtain ⟨w1, h1, e0, e1, b1, s1⟩ := box2u w0 h l 25
  obtain ⟨w2, h2, c0, c1, b2, s2⟩ := box2u w1 g m 25
  have lt : w0.heap.size < w1.heap.size := by omega
  have hb := b1.trans (b2.mono b1.size)
  rw [s1, hs] at c0 c1
  have e0 := (b2.cell (p := ⟨w0.heap.size, 0, none⟩) lt).trans e0
  have e1 := (b2.cell (p := ⟨w0.heap.size, 1, none⟩) lt).trans e1
  rw [hs] at e0 e1
  exact ⟨w2.drew, by rw [h2, h1], e0, e1, c0, c1, (hb.cell (p := ⟨X, 0, none⟩) (by show X < w0.heap.size; omega)).trans a0, (hb.cell (p := ⟨X, 1, none⟩) (by show X < w0.heap.size; omega)).trans a1, (hb.cell (p := ⟨X + 1, 0, none⟩) (by show X + 1 < w0.heap.size; omega)).trans a2, (hb.cell (p := ⟨X + 1, 1, none⟩) (by show X + 1 < w0.heap.size; omega)).trans a3, hb.drew, by show X + 1 < w2.heap.size; omega⟩
namespace wideTells
theorem two_lt {h l : Nat} (hh : h < 18446744073709551616) (hl : l < 18446744073709551616) : h * 18446744073709551616 + l < 65536 ^ 8 := by rw [p8]; omega
theorem add_nm (h l g m : Nat) (hh : h < 18446744073709551616) (hl : l < 18446744073709551616) (hg : g < 18446744073709551616) (hm : m < 18446744073709551616) : nm (((h : Int) + g + ((l : Int) + m) / 18446744073709551616) % 18446744073709551616) (((l : Int) + m) % 18446744073709551616) = (h * 18446744073709551616 + l + (g * 18446744073709551616 + m)) % 65536 ^ 8 := by
  rw [p8]; unfold nm; omega
theorem sub_nm (h l g m : Nat) (b : Int) (hb : b = if (l : Int) < m then 1 else 0) (hh : h < 18446744073709551616) (hl : l < 18446744073709551616) (hg : g < 18446744073709551616) (hm : m < 18446744073709551616) : nm (((h : Int) - g - b) % 18446744073709551616) (((l : Int) - m) % 18446744073709551616) = (h * 18446744073709551616 + l + 65536 ^ 8 - (g * 18446744073709551616 + m)) % 65536 ^ 8 := by
  rw [p8]; unfold nm; subst hb; split <;> omega
theorem back_hi (h l g m : Nat) (b : Int) (hb : b = if ((l : Int) + m) % 18446744073709551616 < m then 1 else 0) (hh : h < 18446744073709551616) (hl : l < 18446744073709551616) (hg : g < 18446744073709551616) (hm : m < 18446744073709551616) : (((h : Int) + g + ((l : Int) + m) / 18446744073709551616) % 18446744073709551616 - g - b) % 18446744073709551616 = h ∧ (((l : Int) + m) % 18446744073709551616 - m) % 18446744073709551616 = l := by
  subst hb; split <;> omega
theorem mul_nm (l m : Nat) (hl : l < 18446744073709551616) (hm : m < 18446744073709551616) : nm ((l : Int) * m / 18446744073709551616) ((l : Int) * m % 18446744073709551616) = l * m := by
  have e : (l : Int) * m = ((l * m : Nat) : Int) := by rw [Int.natCast_mul]
  rw [e]
  generalize l * m = p
  unfold nm; omega
set_option maxRecDepth 100000 in
set_option maxHeartbeats 16000000 in
theorem main (h l g m : Nat) (W : World) (hh : h < 18446744073709551616) (hl : l < 18446744073709551616) (hg : g < 18446744073709551616) (hm : m < 18446744073709551616) :
    Calls Try.prog 3 #[.agg #[.int .u64 (h : Int), .int .u64 (l : Int)], .agg #[.int .u64 (g : Int), .int .u64 (m : Int)]] W fun e w' => e = .returned (.bool true) ∧ Below W.heap.size W w' := by
  have LV := Lib.hid (fun w => live1 w)
  have DG := Lib.hid (fun hi lo w h1 h2 => digits_D hi lo w h1 h2)
  have DA := Lib.hid (fun w => DG.out (h : Int) (l : Int) w ⟨by omega, by omega⟩ ⟨by omega, by omega⟩)
  have DB := Lib.hid (fun w => DG.out (g : Int) (m : Int) w ⟨by omega, by omega⟩ ⟨by omega, by omega⟩)
  obtain ⟨A, hA⟩ : ∃ A, h * 18446744073709551616 + l = A := ⟨_, rfl⟩
  obtain ⟨B, hB⟩ : ∃ B, g * 18446744073709551616 + m = B := ⟨_, rfl⟩
  rw [nm_nat, hA] at DA
  rw [nm_nat, hB] at DB
  obtain ⟨b1, hb1⟩ : ∃ b : Int, b = if (l : Int) < m then 1 else 0 := ⟨_, rfl⟩
  obtain ⟨b2, hb2⟩ : ∃ b : Int, b = if ((l : Int) + m) % 18446744073709551616 < m then 1 else 0 := ⟨_, rfl⟩
  have AD := Lib.hid (fun w => wide_add (h : Int) l g m w (by omega) (by omega) (by omega) (by omega) (by omega) (by omega) (by omega) (by omega))
  have SU := Lib.hid (fun w => wide_sub (h : Int) l g m b1 w (by omega) (by omega) (by omega) (by omega) (by omega) (by omega) (by omega) (by omega) hb1)
  have BK := Lib.hid (fun w => wide_sub (((h : Int) + g + ((l : Int) + m) / 18446744073709551616) % 18446744073709551616) (((l : Int) + m) % 18446744073709551616) g m b2 w (by omega) (by omega) (by omega) (by omega) (by omega) (by omega) (by omega) (by omega) hb2)
  obtain ⟨bk1, bk2⟩ := back_hi h l g m b2 hb2 hh hl hg hm
  rw [bk1, bk2] at BK
  have CP := Lib.hid (fun w => wide_cmp (h : Int) l g m w (by omega) (by omega) (by omega) (by omega) (by omega) (by omega))
  rw [nm_nat, nm_nat, hA, hB] at CP
  have DS := Lib.hid (fun w => DG.out (((h : Int) + g + ((l : Int) + m) / 18446744073709551616) % 18446744073709551616) (((l : Int) + m) % 18446744073709551616) w ⟨by omega, by omega⟩ ⟨by omega, by omega⟩)
  rw [add_nm h l g m hh hl hg hm, D_mod, hA, hB] at DS
  have DD := Lib.hid (fun w => DG.out (((h : Int) - g - b1) % 18446744073709551616) (((l : Int) - m) % 18446744073709551616) w ⟨by omega, by omega⟩ ⟨by omega, by omega⟩)
  rw [sub_nm h l g m b1 hb1 hh hl hg hm, D_mod, hA, hB] at DD
  have BL : B < 65536 ^ 8 := by rw [← hB]; exact two_lt hg hm
  have AL : A < 65536 ^ 8 := by rw [← hA]; exact two_lt hh hl
  have SC : A + 65536 ^ 8 - B + B = A + 65536 ^ 8 := Nat.sub_add_cancel (Nat.le_trans (Nat.le_of_lt BL) (Nat.le_add_left _ _))
  have RS := Lib.hid (fun w => (show Calls Try.prog 10 #[.agg #[.int .i64 (dg A 0), .int .i64 (dg A 1), .int .i64 (dg A 2), .int .i64 (dg A 3), .int .i64 (dg A 4), .int .i64 (dg A 5), .int .i64 (dg A 6), .int .i64 (dg A 7)], .agg #[.int .i64 (dg B 0), .int .i64 (dg B 1), .int .i64 (dg B 2), .int .i64 (dg B 3), .int .i64 (dg B 4), .int .i64 (dg B 5), .int .i64 (dg B 6), .int .i64 (dg B 7)]] w fun e w' => e = .returned (.agg (D (A + 65536 ^ 8 - B))) ∧ Below w.heap.size w w' from r1_sub A B _ w SC))
  clear SC
  obtain ⟨N2, hN2⟩ : ∃ n, A + 65536 ^ 8 - B = n := ⟨_, rfl⟩
  rw [hN2] at DD RS
  clear hN2
  have ML := Lib.hid (fun w => wide_mul (l : Int) m w (by omega) (by omega) (by omega) (by omega))
  obtain ⟨mp1, mp2⟩ : 0 ≤ (l : Int) * m ∧ (l : Int) * m < 18446744073709551616 * 18446744073709551616 := ⟨Int.mul_nonneg (by omega) (by omega), Int.lt_of_le_of_lt (Int.mul_le_mul_of_nonneg_right (show (l : Int) ≤ 18446744073709551616 by omega) (by omega)) (Int.mul_lt_mul_of_pos_left (by omega) (by omega))⟩
  have DM := Lib.hid (fun w => DG.out ((l : Int) * m / 18446744073709551616) ((l : Int) * m % 18446744073709551616) w ⟨by omega, by omega⟩ ⟨by omega, by omega⟩)
  rw [mul_nm l m hl hm] at DM
  have RM := Lib.hid (fun w => r1_mul l m w hl hm)
  have OF := Lib.hid (fun w => wide_of (h : Int) w)
  have RA := Lib.hid (fun w => (show Calls Try.prog 8 #[.agg #[.int .i64 (dg A 0), .int .i64 (dg A 1), .int .i64 (dg A 2), .int .i64 (dg A 3), .int .i64 (dg A 4), .int .i64 (dg A 5), .int .i64 (dg A 6), .int .i64 (dg A 7)], .agg #[.int .i64 (dg B 0), .int .i64 (dg B 1), .int .i64 (dg B 2), .int .i64 (dg B 3), .int .i64 (dg B 4), .int .i64 (dg B 5), .int .i64 (dg B 6), .int .i64 (dg B 7)]] w fun e w' => e = .returned (.agg (D (A + B))) ∧ Below w.heap.size w w' from r1_add A B w))
  have RC := Lib.hid (fun w => (show Calls Try.prog 12 #[.agg #[.int .i64 (dg A 0), .int .i64 (dg A 1), .int .i64 (dg A 2), .int .i64 (dg A 3), .int .i64 (dg A 4), .int .i64 (dg A 5), .int .i64 (dg A 6), .int .i64 (dg A 7)], .agg #[.int .i64 (dg B 0), .int .i64 (dg B 1), .int .i64 (dg B 2), .int .i64 (dg B 3), .int .i64 (dg B 4), .int .i64 (dg B 5), .int .i64 (dg B 6), .int .i64 (dg B 7)]] w fun e w' => e = .returned (.int .i64 (cmpI A B)) ∧ Below w.heap.size w w' from r1_cmp A B w AL BL))
  have E1 := neq_D2 (A + B)
  have E2 := neq_D2 N2
  have E3 := eql_D2 (l * m)
  clear DG bk1 bk2 hb1 hb2 mp1 mp2 AL BL hh hl hg hm hA hB
  generalize cmpI A B = z at *
  generalize A + B = N1 at *
  generalize ((h : Int) - g - b1) % 18446744073709551616 = d1 at *
  generalize ((l : Int) - m) % 18446744073709551616 = d2 at *
  generalize ((h : Int) + g + ((l : Int) + m) / 18446744073709551616) % 18446744073709551616 = s1 at *
  generalize ((l : Int) + m) % 18446744073709551616 = s2 at *
  generalize (l : Int) * m / 18446744073709551616 = p1 at *
  generalize (l : Int) * m % 18446744073709551616 = p2 at *
  generalize l * m = N3 at *
  obtain ⟨w0, hw0, a0, a1, a2, a3, hB0, hs0⟩ := tells_start W (h : Int) l g m
  obtain ⟨wa, hwa, x0, x1, x2, x3, x4, x5, x6, x7, hBa, hsa⟩ := tells_two w0 W.heap.size (h : Int) l g m hs0 a0 a1 a2 a3
  obtain ⟨wb, hwb, y0, y1, y2, y3, y4, y5, y6, y7, hBb, hsb⟩ := tells_two w0 W.heap.size (g : Int) m h l hs0 a0 a1 a2 a3
  go_enter Try.func3, Try.ntmps3
  go_upto_region 1 with fail
  rw [← hw0]
  clear hw0
  go_cut [5, 6] (fun s5 s6 wx => ∃ P Q : Nat, s5 = .pointer (some ⟨P, 0, none⟩) ∧ s6 = .pointer (some ⟨Q, 0, none⟩) ∧ (wx.cell? ⟨P, 0, none⟩ = some (.int .u64 (h : Int)) ∧ wx.cell? ⟨P, 1, none⟩ = some (.int .u64 (l : Int)) ∧ wx.cell? ⟨Q, 0, none⟩ = some (.int .u64 (g : Int)) ∧ wx.cell? ⟨Q, 1, none⟩ = some (.int .u64 (m : Int))) ∧ (wx.cell? ⟨W.heap.size, 0, none⟩ = some (.int .u64 (h : Int)) ∧ wx.cell? ⟨W.heap.size, 1, none⟩ = some (.int .u64 (l : Int)) ∧ wx.cell? ⟨W.heap.size + 1, 0, none⟩ = some (.int .u64 (g : Int)) ∧ wx.cell? ⟨W.heap.size + 1, 1, none⟩ = some (.int .u64 (m : Int))) ∧ Below W.heap.size W wx ∧ W.heap.size + 1 < wx.heap.size)
  case first =>
    go_region
    · go_wp2_with fail
      go_meet
      case rel =>
        rw [← hwa]
        exact ⟨_, _, rfl, rfl, ⟨x0, x1, x2, x3⟩, ⟨x4, x5, x6, x7⟩, hB0.trans (hBa.mono hB0.size), hsa⟩
    · go_wp2_with fail
      go_meet
      case rel =>
        rw [← hwb]
        exact ⟨_, _, rfl, rfl, ⟨y2, y3, y0, y1⟩, ⟨y4, y5, y6, y7⟩, hB0.trans (hBb.mono hB0.size), hsb⟩
  case rest =>
    clear hwa x0 x1 x2 x3 x4 x5 x6 x7 hBa hsa hwb y0 y1 y2 y3 y4 y5 y6 y7 hBb hsb a0 a1 a2 a3 hB0 hs0
    obtain ⟨P, Q, rfl, rfl, ⟨x0, x1, x2, x3⟩, ⟨a0, a1, a2, a3⟩, hBc, hlt⟩ := hcut
    have HBC := Lib.hid hBc
    have lP := block_lt_of_cell x0
    have lQ := block_lt_of_cell x2
    have l0 := block_lt_of_cell a0
    have l1 := block_lt_of_cell a2
    clear hBc hlt
    generalize wc = wv at *
    have MK := Lib.hid (fun w' (hb : Below wv.heap.size wv w') => (show w'.cell? ⟨P, 0, none⟩ = some (.int .u64 (h : Int)) ∧ w'.cell? ⟨P, 1, none⟩ = some (.int .u64 (l : Int)) ∧ w'.cell? ⟨Q, 0, none⟩ = some (.int .u64 (g : Int)) ∧ w'.cell? ⟨Q, 1, none⟩ = some (.int .u64 (m : Int)) ∧ Below wv.heap.size wv w' from ⟨(hb.cell (p := ⟨P, 0, none⟩) lP).trans x0, (hb.cell (p := ⟨P, 1, none⟩) lP).trans x1, (hb.cell (p := ⟨Q, 0, none⟩) lQ).trans x2, (hb.cell (p := ⟨Q, 1, none⟩) lQ).trans x3, hb⟩))
    have MA := Lib.hid (fun w' (hb : Below wv.heap.size wv w') => (show w'.cell? ⟨W.heap.size, 0, none⟩ = some (.int .u64 (h : Int)) ∧ w'.cell? ⟨W.heap.size, 1, none⟩ = some (.int .u64 (l : Int)) ∧ w'.cell? ⟨W.heap.size + 1, 0, none⟩ = some (.int .u64 (g : Int)) ∧ w'.cell? ⟨W.heap.size + 1, 1, none⟩ = some (.int .u64 (m : Int)) from ⟨(hb.cell (p := ⟨W.heap.size, 0, none⟩) l0).trans a0, (hb.cell (p := ⟨W.heap.size, 1, none⟩) l0).trans a1, (hb.cell (p := ⟨W.heap.size + 1, 0, none⟩) l1).trans a2, (hb.cell (p := ⟨W.heap.size + 1, 1, none⟩) l1).trans a3⟩))
    clear a0 a1 a2 a3 l0 l1
    go_upto_region 2 with fail
    go_cut [7, 8] (fun s7 s8 wx => ∃ R T : Nat, s7 = .pointer (some ⟨R, 0, none⟩) ∧ s8 = .pointer (some ⟨T, 0, none⟩) ∧ Box wx R A ∧ Box wx T B ∧ Below wv.heap.size wv wx)
    case first =>
      have Bk : Below wv.heap.size wv wv.drew := (Below.refl _ _).drew
      refine wp_region_held_drew (S := fun w' => w'.cell? ⟨P, 0, none⟩ = some (.int .u64 (h : Int)) ∧ w'.cell? ⟨P, 1, none⟩ = some (.int .u64 (l : Int)) ∧ w'.cell? ⟨Q, 0, none⟩ = some (.int .u64 (g : Int)) ∧ w'.cell? ⟨Q, 1, none⟩ = some (.int .u64 (m : Int)) ∧ Below wv.heap.size wv w') (by kernel_rfl) (MK.out _ Bk) (fun hHeld => ?_)
      clear x0 x1 x2 x3
      generalize wv.drew = u at *
      refine wpAnyH_take (i := 0) (v := ?v0) rfl (by kernel_rfl) (by kernel_rfl) (by kernel_rfl) (fun _ _ _ h => h) (Or.inl ⟨by kernel_rfl, ?hy0⟩) (by assumption) ?rest0
      case hy0 => intro w hSw; (try dsimp only at hSw); go_simp; (first | done | with_reducible rfl)
      (try simp only [Act.put, List.getElem_toArray, List.getElem_cons_zero, List.getElem_cons_succ, List.setIfInBounds_toArray, List.set_cons_zero, List.set_cons_succ])
      refine wpAnyH_take (i := 2) (v := ?v1) rfl (by kernel_rfl) (by kernel_rfl) (by kernel_rfl) (fun _ _ _ h => h) (Or.inl ⟨by kernel_rfl, ?hy1⟩) (by assumption) ?rest1
      case hy1 => intro w hSw; (try dsimp only at hSw); go_simp; (first | done | with_reducible rfl)
      (try simp only [Act.put, List.getElem_toArray, List.getElem_cons_zero, List.getElem_cons_succ, List.setIfInBounds_toArray, List.set_cons_zero, List.set_cons_succ])
      refine wpAnyH_ready (rs := [1, 4, 5]) (by kernel_rfl) (by simp) ?_
      refine AllReadyH.cons rfl (fun K hK => ?_) ?_
      · go_simp
        refine (DA.out _).mono ?_
        rintro e u ⟨rfl, hb⟩
        (try go_wp2_with fail)
        have Bk2 := Bk.trans (hb.mono Bk.size)
        refine hK.out _ _ (MK.out _ Bk2) (fun hHeld2 => ?_)
        clear hK K hHeld hb Bk
        have Bk := Bk2
        have hHeld := hHeld2
        clear hHeld2 Bk2
        (try simp only [Act.put, List.getElem_toArray, List.getElem_cons_zero, List.getElem_cons_succ, List.setIfInBounds_toArray, List.set_cons_zero, List.set_cons_succ])
        refine wpAnyH_ready (rs := [3, 4, 5]) (by kernel_rfl) (by simp) ?_
        refine AllReadyH.cons rfl (fun K hK => ?_) ?_
        · go_simp
          refine (DB.out _).mono ?_
          rintro e u ⟨rfl, hb⟩
          (try go_wp2_with fail)
          have Bk2 := Bk.trans (hb.mono Bk.size)
          refine hK.out _ _ (MK.out _ Bk2) (fun hHeld2 => ?_)
          clear hK K hHeld hb Bk
          have Bk := Bk2
          have hHeld := hHeld2
          clear hHeld2 Bk2
          (try simp only [Act.put, List.getElem_toArray, List.getElem_cons_zero, List.getElem_cons_succ, List.setIfInBounds_toArray, List.set_cons_zero, List.set_cons_succ])
          refine wpAnyH_ready (rs := [4, 5]) (by kernel_rfl) (by simp) ?_
          refine AllReadyH.cons rfl (fun K hK => ?_) ?_
          · go_simp
            have hR := Box.new u
            have hge : wv.heap.size ≤ u.heap.size := Bk.size
            have Bk2 := Bk.alloc Bk.size (.cells #[.int .i64 0, .int .i64 0, .int .i64 0, .int .i64 0, .int .i64 0, .int .i64 0, .int .i64 0, .int .i64 0] 27)
            refine hK.out _ _ (MK.out _ Bk2) (fun hHeld2 => ?_)
            clear hK K hHeld Bk
            have Bk := Bk2
            have hHeld := hHeld2
            clear hHeld2 Bk2
            (try simp only [Act.put, List.getElem_toArray, List.getElem_cons_zero, List.getElem_cons_succ, List.setIfInBounds_toArray, List.set_cons_zero, List.set_cons_succ])
            generalize u.heap.size = R at *
            generalize u.alloc (.cells #[.int .i64 0, .int .i64 0, .int .i64 0, .int .i64 0, .int .i64 0, .int .i64 0, .int .i64 0, .int .i64 0] 27) = u at *
            refine wpAnyH_ready (rs := [5]) (by kernel_rfl) (by simp) ?_
            refine AllReadyH.cons rfl (fun K hK => ?_) AllReadyH.nil
            · go_simp
              have hT := Box.new u
              have hge : wv.heap.size ≤ u.heap.size := Bk.size
              have Bk2 := Bk.alloc Bk.size (.cells #[.int .i64 0, .int .i64 0, .int .i64 0, .int .i64 0, .int .i64 0, .int .i64 0, .int .i64 0, .int .i64 0] 27)
              have hne := hR.lt
              have hR2 := hR.alloc (.cells #[.int .i64 0, .int .i64 0, .int .i64 0, .int .i64 0, .int .i64 0, .int .i64 0, .int .i64 0, .int .i64 0] 27)
              refine hK.out _ _ (MK.out _ Bk2) (fun hHeld2 => ?_)
              clear hK K hHeld Bk hR
              have hR := hR2
              clear hR2
              have Bk := Bk2
              have hHeld := hHeld2
              clear hHeld2 Bk2
              (try simp only [Act.put, List.getElem_toArray, List.getElem_cons_zero, List.getElem_cons_succ, List.setIfInBounds_toArray, List.set_cons_zero, List.set_cons_succ])
              generalize u.heap.size = T at *
              generalize u.alloc (.cells #[.int .i64 0, .int .i64 0, .int .i64 0, .int .i64 0, .int .i64 0, .int .i64 0, .int .i64 0, .int .i64 0] 27) = u at *
              refine wpAnyH_ready (rs := [6]) (by kernel_rfl) (by simp) ?_
              refine AllReadyH.cons rfl (fun K hK => ?_) AllReadyH.nil
              · have hst := hR.st A
                go_simp
                have hR2 := hR.set A
                have hT2 := hT.other (show T ≠ R by omega) (D A)
                have Bk2 := below_setRow Bk (show wv.heap.size ≤ R by omega) (D A)
                refine hK.out _ _ (MK.out _ Bk2) (fun hHeld2 => ?_)
                clear hK K hHeld hst Bk hR hT
                have hR := hR2
                have hT := hT2
                have Bk := Bk2
                have hHeld := hHeld2
                clear hHeld2 Bk2 hR2 hT2
                (try simp only [Act.put])
                generalize u.setRow R (D A) = u at *
                refine wpAnyH_ready (rs := [7]) (by kernel_rfl) (by simp) ?_
                refine AllReadyH.cons rfl (fun K hK => ?_) AllReadyH.nil
                · have hst := hT.st B
                  go_simp
                  have hT2 := hT.set B
                  have hR2 := hR.other (show R ≠ T by omega) (D B)
                  have Bk2 := below_setRow Bk (show wv.heap.size ≤ T by omega) (D B)
                  refine hK.out _ _ (MK.out _ Bk2) (fun hHeld2 => ?_)
                  clear hK K hHeld hst Bk hR hT
                  have hR := hR2
                  have hT := hT2
                  have Bk := Bk2
                  have hHeld := hHeld2
                  clear hHeld2 Bk2 hR2 hT2
                  (try simp only [Act.put])
                  generalize u.setRow T (D B) = u at *
                  refine wpAnyH_done (by kernel_rfl) ?_ _
                  go_wp2_with fail
                  go_meet
                  exact ⟨R, T, rfl, rfl, hR, hT, Bk⟩
          refine AllReadyH.cons rfl (fun K hK => ?_) AllReadyH.nil
          · go_simp
            have hT := Box.new u
            have hge : wv.heap.size ≤ u.heap.size := Bk.size
            have Bk2 := Bk.alloc Bk.size (.cells #[.int .i64 0, .int .i64 0, .int .i64 0, .int .i64 0, .int .i64 0, .int .i64 0, .int .i64 0, .int .i64 0] 27)
            refine hK.out _ _ (MK.out _ Bk2) (fun hHeld2 => ?_)
            clear hK K hHeld Bk
            have Bk := Bk2
            have hHeld := hHeld2
            clear hHeld2 Bk2
            (try simp only [Act.put, List.getElem_toArray, List.getElem_cons_zero, List.getElem_cons_succ, List.setIfInBounds_toArray, List.set_cons_zero, List.set_cons_succ])
            generalize u.heap.size = T at *
            generalize u.alloc (.cells #[.int .i64 0, .int .i64 0, .int .i64 0, .int .i64 0, .int .i64 0, .int .i64 0, .int .i64 0, .int .i64 0] 27) = u at *
            refine wpAnyH_ready (rs := [4]) (by kernel_rfl) (by simp) ?_
            refine AllReadyH.cons rfl (fun K hK => ?_) AllReadyH.nil
            · go_simp
              have hR := Box.new u
              have hge : wv.heap.size ≤ u.heap.size := Bk.size
              have Bk2 := Bk.alloc Bk.size (.cells #[.int .i64 0, .int .i64 0, .int .i64 0, .int .i64 0, .int .i64 0, .int .i64 0, .int .i64 0, .int .i64 0] 27)
              have hne := hT.lt
              have hT2 := hT.alloc (.cells #[.int .i64 0, .int .i64 0, .int .i64 0, .int .i64 0, .int .i64 0, .int .i64 0, .int .i64 0, .int .i64 0] 27)
              refine hK.out _ _ (MK.out _ Bk2) (fun hHeld2 => ?_)
              clear hK K hHeld Bk hT
              have hT := hT2
              clear hT2
              have Bk := Bk2
              have hHeld := hHeld2
              clear hHeld2 Bk2
              (try simp only [Act.put, List.getElem_toArray, List.getElem_cons_zero, List.getElem_cons_succ, List.setIfInBounds_toArray, List.set_cons_zero, List.set_cons_succ])
              generalize u.heap.size = R at *
              generalize u.alloc (.cells #[.int .i64 0, .int .i64 0, .int .i64 0, .int .i64 0, .int .i64 0, .int .i64 0, .int .i64 0, .int .i64 0] 27) = u at *
              refine wpAnyH_ready (rs := [6]) (by kernel_rfl) (by simp) ?_
              refine AllReadyH.cons rfl (fun K hK => ?_) AllReadyH.nil
              · have hst := hR.st A
                go_simp
                have hR2 := hR.set A
                have hT2 := hT.other (show T ≠ R by omega) (D A)
                have Bk2 := below_setRow Bk (show wv.heap.size ≤ R by omega) (D A)
                refine hK.out _ _ (MK.out _ Bk2) (fun hHeld2 => ?_)
                clear hK K hHeld hst Bk hR hT
                have hR := hR2
                have hT := hT2
                have Bk := Bk2
                have hHeld := hHeld2
                clear hHeld2 Bk2 hR2 hT2
                (try simp only [Act.put])
                generalize u.setRow R (D A) = u at *
                refine wpAnyH_ready (rs := [7]) (by kernel_rfl) (by simp) ?_
                refine AllReadyH.cons rfl (fun K hK => ?_) AllReadyH.nil
                · have hst := hT.st B
                  go_simp
                  have hT2 := hT.set B
                  have hR2 := hR.other (show R ≠ T by omega) (D B)
                  have Bk2 := below_setRow Bk (show wv.heap.size ≤ T by omega) (D B)
                  refine hK.out _ _ (MK.out _ Bk2) (fun hHeld2 => ?_)
                  clear hK K hHeld hst Bk hR hT
                  have hR := hR2
                  have hT := hT2
                  have Bk := Bk2
                  have hHeld := hHeld2
                  clear hHeld2 Bk2 hR2 hT2
                  (try simp only [Act.put])
                  generalize u.setRow T (D B) = u at *
                  refine wpAnyH_done (by kernel_rfl) ?_ _
                  go_wp2_with fail
                  go_meet
                  exact ⟨R, T, rfl, rfl, hR, hT, Bk⟩
        refine AllReadyH.cons rfl (fun K hK => ?_) ?_
        · go_simp
          have hR := Box.new u
          have hge : wv.heap.size ≤ u.heap.size := Bk.size
          have Bk2 := Bk.alloc Bk.size (.cells #[.int .i64 0, .int .i64 0, .int .i64 0, .int .i64 0, .int .i64 0, .int .i64 0, .int .i64 0, .int .i64 0] 27)
          refine hK.out _ _ (MK.out _ Bk2) (fun hHeld2 => ?_)
          clear hK K hHeld Bk
          have Bk := Bk2
          have hHeld := hHeld2
          clear hHeld2 Bk2
          (try simp only [Act.put, List.getElem_toArray, List.getElem_cons_zero, List.getElem_cons_succ, List.setIfInBounds_toArray, List.set_cons_zero, List.set_cons_succ])
          generalize u.heap.size = R at *
          generalize u.alloc (.cells #[.int .i64 0, .int .i64 0, .int .i64 0, .int .i64 0, .int .i64 0, .int .i64 0, .int .i64 0, .int .i64 0] 27) = u at *
          refine wpAnyH_ready (rs := [3, 5]) (by kernel_rfl) (by simp) ?_
          refine AllReadyH.cons rfl (fun K hK => ?_) ?_
          · go_simp
            refine (DB.out _).mono ?_
            rintro e u ⟨rfl, hb⟩
            (try go_wp2_with fail)
            have Bk2 := Bk.trans (hb.mono Bk.size)
            have hR2 := hR.kept hb
            refine hK.out _ _ (MK.out _ Bk2) (fun hHeld2 => ?_)
            clear hK K hHeld hb Bk hR
            have hR := hR2
            have Bk := Bk2
            have hHeld := hHeld2
            clear hHeld2 Bk2 hR2
            (try simp only [Act.put, List.getElem_toArray, List.getElem_cons_zero, List.getElem_cons_succ, List.setIfInBounds_toArray, List.set_cons_zero, List.set_cons_succ])
            refine wpAnyH_ready (rs := [5]) (by kernel_rfl) (by simp) ?_
            refine AllReadyH.cons rfl (fun K hK => ?_) AllReadyH.nil
            · go_simp
              have hT := Box.new u
              have hge : wv.heap.size ≤ u.heap.size := Bk.size
              have Bk2 := Bk.alloc Bk.size (.cells #[.int .i64 0, .int .i64 0, .int .i64 0, .int .i64 0, .int .i64 0, .int .i64 0, .int .i64 0, .int .i64 0] 27)
              have hne := hR.lt
              have hR2 := hR.alloc (.cells #[.int .i64 0, .int .i64 0, .int .i64 0, .int .i64 0, .int .i64 0, .int .i64 0, .int .i64 0, .int .i64 0] 27)
              refine hK.out _ _ (MK.out _ Bk2) (fun hHeld2 => ?_)
              clear hK K hHeld Bk hR
              have hR := hR2
              clear hR2
              have Bk := Bk2
              have hHeld := hHeld2
              clear hHeld2 Bk2
              (try simp only [Act.put, List.getElem_toArray, List.getElem_cons_zero, List.getElem_cons_succ, List.setIfInBounds_toArray, List.set_cons_zero, List.set_cons_succ])
              generalize u.heap.size = T at *
              generalize u.alloc (.cells #[.int .i64 0, .int .i64 0, .int .i64 0, .int .i64 0, .int .i64 0, .int .i64 0, .int .i64 0, .int .i64 0] 27) = u at *
              refine wpAnyH_ready (rs := [6]) (by kernel_rfl) (by simp) ?_
              refine AllReadyH.cons rfl (fun K hK => ?_) AllReadyH.nil
              · have hst := hR.st A
                go_simp
                have hR2 := hR.set A
                have hT2 := hT.other (show T ≠ R by omega) (D A)
                have Bk2 := below_setRow Bk (show wv.heap.size ≤ R by omega) (D A)
                refine hK.out _ _ (MK.out _ Bk2) (fun hHeld2 => ?_)
                clear hK K hHeld hst Bk hR hT
                have hR := hR2
                have hT := hT2
                have Bk := Bk2
                have hHeld := hHeld2
                clear hHeld2 Bk2 hR2 hT2
                (try simp only [Act.put])
                generalize u.setRow R (D A) = u at *
                refine wpAnyH_ready (rs := [7]) (by kernel_rfl) (by simp) ?_
                refine AllReadyH.cons rfl (fun K hK => ?_) AllReadyH.nil
                · have hst := hT.st B
                  go_simp
                  have hT2 := hT.set B
                  have hR2 := hR.other (show R ≠ T by omega) (D B)
                  have Bk2 := below_setRow Bk (show wv.heap.size ≤ T by omega) (D B)
                  refine hK.out _ _ (MK.out _ Bk2) (fun hHeld2 => ?_)
                  clear hK K hHeld hst Bk hR hT
                  have hR := hR2
                  have hT := hT2
                  have Bk := Bk2
                  have hHeld := hHeld2
                  clear hHeld2 Bk2 hR2 hT2
                  (try simp only [Act.put])
                  generalize u.setRow T (D B) = u at *
                  refine wpAnyH_done (by kernel_rfl) ?_ _
                  go_wp2_with fail
                  go_meet
                  exact ⟨R, T, rfl, rfl, hR, hT, Bk⟩
          refine AllReadyH.cons rfl (fun K hK => ?_) AllReadyH.nil
          · go_simp
            have hT := Box.new u
            have hge : wv.heap.size ≤ u.heap.size := Bk.size
            have Bk2 := Bk.alloc Bk.size (.cells #[.int .i64 0, .int .i64 0, .int .i64 0, .int .i64 0, .int .i64 0, .int .i64 0, .int .i64 0, .int .i64 0] 27)
            have hne := hR.lt
            have hR2 := hR.alloc (.cells #[.int .i64 0, .int .i64 0, .int .i64 0, .int .i64 0, .int .i64 0, .int .i64 0, .int .i64 0, .int .i64 0] 27)
            refine hK.out _ _ (MK.out _ Bk2) (fun hHeld2 => ?_)
            clear hK K hHeld Bk hR
            have hR := hR2
            clear hR2
            have Bk := Bk2
            have hHeld := hHeld2
            clear hHeld2 Bk2
            (try simp only [Act.put, List.getElem_toArray, List.getElem_cons_zero, List.getElem_cons_succ, List.setIfInBounds_toArray, List.set_cons_zero, List.set_cons_succ])
            generalize u.heap.size = T at *
            generalize u.alloc (.cells #[.int .i64 0, .int .i64 0, .int .i64 0, .int .i64 0, .int .i64 0, .int .i64 0, .int .i64 0, .int .i64 0] 27) = u at *
            refine wpAnyH_ready (rs := [3]) (by kernel_rfl) (by simp) ?_
            refine AllReadyH.cons rfl (fun K hK => ?_) AllReadyH.nil
            · go_simp
              refine (DB.out _).mono ?_
              rintro e u ⟨rfl, hb⟩
              (try go_wp2_with fail)
              have Bk2 := Bk.trans (hb.mono Bk.size)
              have hR2 := hR.kept hb
              have hT2 := hT.kept hb
              refine hK.out _ _ (MK.out _ Bk2) (fun hHeld2 => ?_)
              clear hK K hHeld hb Bk hR hT
              have hR := hR2
              have hT := hT2
              have Bk := Bk2
              have hHeld := hHeld2
              clear hHeld2 Bk2 hR2 hT2
              (try simp only [Act.put, List.getElem_toArray, List.getElem_cons_zero, List.getElem_cons_succ, List.setIfInBounds_toArray, List.set_cons_zero, List.set_cons_succ])
              refine wpAnyH_ready (rs := [6]) (by kernel_rfl) (by simp) ?_
              refine AllReadyH.cons rfl (fun K hK => ?_) AllReadyH.nil
              · have hst := hR.st A
                go_simp
                have hR2 := hR.set A
                have hT2 := hT.other (show T ≠ R by omega) (D A)
                have Bk2 := below_setRow Bk (show wv.heap.size ≤ R by omega) (D A)
                refine hK.out _ _ (MK.out _ Bk2) (fun hHeld2 => ?_)
                clear hK K hHeld hst Bk hR hT
                have hR := hR2
                have hT := hT2
                have Bk := Bk2
                have hHeld := hHeld2
                clear hHeld2 Bk2 hR2 hT2
                (try simp only [Act.put])
                generalize u.setRow R (D A) = u at *
                refine wpAnyH_ready (rs := [7]) (by kernel_rfl) (by simp) ?_
                refine AllReadyH.cons rfl (fun K hK => ?_) AllReadyH.nil
                · have hst := hT.st B
                  go_simp
                  have hT2 := hT.set B
                  have hR2 := hR.other (show R ≠ T by omega) (D B)
                  have Bk2 := below_setRow Bk (show wv.heap.size ≤ T by omega) (D B)
                  refine hK.out _ _ (MK.out _ Bk2) (fun hHeld2 => ?_)
                  clear hK K hHeld hst Bk hR hT
                  have hR := hR2
                  have hT := hT2
                  have Bk := Bk2
                  have hHeld := hHeld2
                  clear hHeld2 Bk2 hR2 hT2
                  (try simp only [Act.put])
                  generalize u.setRow T (D B) = u at *
                  refine wpAnyH_done (by kernel_rfl) ?_ _
                  go_wp2_with fail
                  go_meet
                  exact ⟨R, T, rfl, rfl, hR, hT, Bk⟩
        refine AllReadyH.cons rfl (fun K hK => ?_) AllReadyH.nil
        · go_simp
          have hT := Box.new u
          have hge : wv.heap.size ≤ u.heap.size := Bk.size
          have Bk2 := Bk.alloc Bk.size (.cells #[.int .i64 0, .int .i64 0, .int .i64 0, .int .i64 0, .int .i64 0, .int .i64 0, .int .i64 0, .int .i64 0] 27)
          refine hK.out _ _ (MK.out _ Bk2) (fun hHeld2 => ?_)
          clear hK K hHeld Bk
          have Bk := Bk2
          have hHeld := hHeld2
          clear hHeld2 Bk2
          (try simp only [Act.put, List.getElem_toArray, List.getElem_cons_zero, List.getElem_cons_succ, List.setIfInBounds_toArray, List.set_cons_zero, List.set_cons_succ])
          generalize u.heap.size = T at *
          generalize u.alloc (.cells #[.int .i64 0, .int .i64 0, .int .i64 0, .int .i64 0, .int .i64 0, .int .i64 0, .int .i64 0, .int .i64 0] 27) = u at *
          refine wpAnyH_ready (rs := [3, 4]) (by kernel_rfl) (by simp) ?_
          refine AllReadyH.cons rfl (fun K hK => ?_) ?_
          · go_simp
            refine (DB.out _).mono ?_
            rintro e u ⟨rfl, hb⟩
            (try go_wp2_with fail)
            have Bk2 := Bk.trans (hb.mono Bk.size)
            have hT2 := hT.kept hb
            refine hK.out _ _ (MK.out _ Bk2) (fun hHeld2 => ?_)
            clear hK K hHeld hb Bk hT
            have hT := hT2
            have Bk := Bk2
            have hHeld := hHeld2
            clear hHeld2 Bk2 hT2
            (try simp only [Act.put, List.getElem_toArray, List.getElem_cons_zero, List.getElem_cons_succ, List.setIfInBounds_toArray, List.set_cons_zero, List.set_cons_succ])
            refine wpAnyH_ready (rs := [4]) (by kernel_rfl) (by simp) ?_
            refine AllReadyH.cons rfl (fun K hK => ?_) AllReadyH.nil
            · go_simp
              have hR := Box.new u
              have hge : wv.heap.size ≤ u.heap.size := Bk.size
              have Bk2 := Bk.alloc Bk.size (.cells #[.int .i64 0, .int .i64 0, .int .i64 0, .int .i64 0, .int .i64 0, .int .i64 0, .int .i64 0, .int .i64 0] 27)
              have hne := hT.lt
              have hT2 := hT.alloc (.cells #[.int .i64 0, .int .i64 0, .int .i64 0, .int .i64 0, .int .i64 0, .int .i64 0, .int .i64 0, .int .i64 0] 27)
              refine hK.out _ _ (MK.out _ Bk2) (fun hHeld2 => ?_)
              clear hK K hHeld Bk hT
              have hT := hT2
              clear hT2
              have Bk := Bk2
              have hHeld := hHeld2
              clear hHeld2 Bk2
              (try simp only [Act.put, List.getElem_toArray, List.getElem_cons_zero, List.getElem_cons_succ, List.setIfInBounds_toArray, List.set_cons_zero, List.set_cons_succ])
              generalize u.heap.size = R at *
              generalize u.alloc (.cells #[.int .i64 0, .int .i64 0, .int .i64 0, .int .i64 0, .int .i64 0, .int .i64 0, .int .i64 0, .int .i64 0] 27) = u at *
              refine wpAnyH_ready (rs := [6]) (by kernel_rfl) (by simp) ?_
              refine AllReadyH.cons rfl (fun K hK => ?_) AllReadyH.nil
              · have hst := hR.st A
                go_simp
                have hR2 := hR.set A
                have hT2 := hT.other (show T ≠ R by omega) (D A)
                have Bk2 := below_setRow Bk (show wv.heap.size ≤ R by omega) (D A)
                refine hK.out _ _ (MK.out _ Bk2) (fun hHeld2 => ?_)
                clear hK K hHeld hst Bk hR hT
                have hR := hR2
                have hT := hT2
                have Bk := Bk2
                have hHeld := hHeld2
                clear hHeld2 Bk2 hR2 hT2
                (try simp only [Act.put])
                generalize u.setRow R (D A) = u at *
                refine wpAnyH_ready (rs := [7]) (by kernel_rfl) (by simp) ?_
                refine AllReadyH.cons rfl (fun K hK => ?_) AllReadyH.nil
                · have hst := hT.st B
                  go_simp
                  have hT2 := hT.set B
                  have hR2 := hR.other (show R ≠ T by omega) (D B)
                  have Bk2 := below_setRow Bk (show wv.heap.size ≤ T by omega) (D B)
                  refine hK.out _ _ (MK.out _ Bk2) (fun hHeld2 => ?_)
                  clear hK K hHeld hst Bk hR hT
                  have hR := hR2
                  have hT := hT2
                  have Bk := Bk2
                  have hHeld := hHeld2
                  clear hHeld2 Bk2 hR2 hT2
                  (try simp only [Act.put])
                  generalize u.setRow T (D B) = u at *
                  refine wpAnyH_done (by kernel_rfl) ?_ _
                  go_wp2_with fail
                  go_meet
                  exact ⟨R, T, rfl, rfl, hR, hT, Bk⟩
          refine AllReadyH.cons rfl (fun K hK => ?_) AllReadyH.nil
          · go_simp
            have hR := Box.new u
            have hge : wv.heap.size ≤ u.heap.size := Bk.size
            have Bk2 := Bk.alloc Bk.size (.cells #[.int .i64 0, .int .i64 0, .int .i64 0, .int .i64 0, .int .i64 0, .int .i64 0, .int .i64 0, .int .i64 0] 27)
            have hne := hT.lt
            have hT2 := hT.alloc (.cells #[.int .i64 0, .int .i64 0, .int .i64 0, .int .i64 0, .int .i64 0, .int .i64 0, .int .i64 0, .int .i64 0] 27)
            refine hK.out _ _ (MK.out _ Bk2) (fun hHeld2 => ?_)
            clear hK K hHeld Bk hT
            have hT := hT2
            clear hT2
            have Bk := Bk2
            have hHeld := hHeld2
            clear hHeld2 Bk2
            (try simp only [Act.put, List.getElem_toArray, List.getElem_cons_zero, List.getElem_cons_succ, List.setIfInBounds_toArray, List.set_cons_zero, List.set_cons_succ])
            generalize u.heap.size = R at *
            generalize u.alloc (.cells #[.int .i64 0, .int .i64 0, .int .i64 0, .int .i64 0, .int .i64 0, .int .i64 0, .int .i64 0, .int .i64 0] 27) = u at *
            refine wpAnyH_ready (rs := [3]) (by kernel_rfl) (by simp) ?_
            refine AllReadyH.cons rfl (fun K hK => ?_) AllReadyH.nil
            · go_simp
              refine (DB.out _).mono ?_
              rintro e u ⟨rfl, hb⟩
              (try go_wp2_with fail)
              have Bk2 := Bk.trans (hb.mono Bk.size)
              have hR2 := hR.kept hb
              have hT2 := hT.kept hb
              refine hK.out _ _ (MK.out _ Bk2) (fun hHeld2 => ?_)
              clear hK K hHeld hb Bk hR hT
              have hR := hR2
              have hT := hT2
              have Bk := Bk2
              have hHeld := hHeld2
              clear hHeld2 Bk2 hR2 hT2
              (try simp only [Act.put, List.getElem_toArray, List.getElem_cons_zero, List.getElem_cons_succ, List.setIfInBounds_toArray, List.set_cons_zero, List.set_cons_succ])
              refine wpAnyH_ready (rs := [6]) (by kernel_rfl) (by simp) ?_
              refine AllReadyH.cons rfl (fun K hK => ?_) AllReadyH.nil
              · have hst := hR.st A
                go_simp
                have hR2 := hR.set A
                have hT2 := hT.other (show T ≠ R by omega) (D A)
                have Bk2 := below_setRow Bk (show wv.heap.size ≤ R by omega) (D A)
                refine hK.out _ _ (MK.out _ Bk2) (fun hHeld2 => ?_)
                clear hK K hHeld hst Bk hR hT
                have hR := hR2
                have hT := hT2
                have Bk := Bk2
                have hHeld := hHeld2
                clear hHeld2 Bk2 hR2 hT2
                (try simp only [Act.put])
                generalize u.setRow R (D A) = u at *
                refine wpAnyH_ready (rs := [7]) (by kernel_rfl) (by simp) ?_
                refine AllReadyH.cons rfl (fun K hK => ?_) AllReadyH.nil
                · have hst := hT.st B
                  go_simp
                  have hT2 := hT.set B
                  have hR2 := hR.other (show R ≠ T by omega) (D B)
                  have Bk2 := below_setRow Bk (show wv.heap.size ≤ T by omega) (D B)
                  refine hK.out _ _ (MK.out _ Bk2) (fun hHeld2 => ?_)
                  clear hK K hHeld hst Bk hR hT
                  have hR := hR2
                  have hT := hT2
                  have Bk := Bk2
                  have hHeld := hHeld2
                  clear hHeld2 Bk2 hR2 hT2
                  (try simp only [Act.put])
                  generalize u.setRow T (D B) = u at *
                  refine wpAnyH_done (by kernel_rfl) ?_ _
                  go_wp2_with fail
                  go_meet
                  exact ⟨R, T, rfl, rfl, hR, hT, Bk⟩
      refine AllReadyH.cons rfl (fun K hK => ?_) ?_
      · go_simp
        have hR := Box.new u
        have hge : wv.heap.size ≤ u.heap.size := Bk.size
        have Bk2 := Bk.alloc Bk.size (.cells #[.int .i64 0, .int .i64 0, .int .i64 0, .int .i64 0, .int .i64 0, .int .i64 0, .int .i64 0, .int .i64 0] 27)
        refine hK.out _ _ (MK.out _ Bk2) (fun hHeld2 => ?_)
        clear hK K hHeld Bk
        have Bk := Bk2
        have hHeld := hHeld2
        clear hHeld2 Bk2
        (try simp only [Act.put, List.getElem_toArray, List.getElem_cons_zero, List.getElem_cons_succ, List.setIfInBounds_toArray, List.set_cons_zero, List.set_cons_succ])
        generalize u.heap.size = R at *
        generalize u.alloc (.cells #[.int .i64 0, .int .i64 0, .int .i64 0, .int .i64 0, .int .i64 0, .int .i64 0, .int .i64 0, .int .i64 0] 27) = u at *
        refine wpAnyH_ready (rs := [1, 5]) (by kernel_rfl) (by simp) ?_
        refine AllReadyH.cons rfl (fun K hK => ?_) ?_
        · go_simp
          refine (DA.out _).mono ?_
          rintro e u ⟨rfl, hb⟩
          (try go_wp2_with fail)
          have Bk2 := Bk.trans (hb.mono Bk.size)
          have hR2 := hR.kept hb
          refine hK.out _ _ (MK.out _ Bk2) (fun hHeld2 => ?_)
          clear hK K hHeld hb Bk hR
          have hR := hR2
          have Bk := Bk2
          have hHeld := hHeld2
          clear hHeld2 Bk2 hR2
          (try simp only [Act.put, List.getElem_toArray, List.getElem_cons_zero, List.getElem_cons_succ, List.setIfInBounds_toArray, List.set_cons_zero, List.set_cons_succ])
          refine wpAnyH_ready (rs := [3, 5]) (by kernel_rfl) (by simp) ?_
          refine AllReadyH.cons rfl (fun K hK => ?_) ?_
          · go_simp
            refine (DB.out _).mono ?_
            rintro e u ⟨rfl, hb⟩
            (try go_wp2_with fail)
            have Bk2 := Bk.trans (hb.mono Bk.size)
            have hR2 := hR.kept hb
            refine hK.out _ _ (MK.out _ Bk2) (fun hHeld2 => ?_)
            clear hK K hHeld hb Bk hR
            have hR := hR2
            have Bk := Bk2
            have hHeld := hHeld2
            clear hHeld2 Bk2 hR2
            (try simp only [Act.put, List.getElem_toArray, List.getElem_cons_zero, List.getElem_cons_succ, List.setIfInBounds_toArray, List.set_cons_zero, List.set_cons_succ])
            refine wpAnyH_ready (rs := [5]) (by kernel_rfl) (by simp) ?_
            refine AllReadyH.cons rfl (fun K hK => ?_) AllReadyH.nil
            · go_simp
              have hT := Box.new u
              have hge : wv.heap.size ≤ u.heap.size := Bk.size
              have Bk2 := Bk.alloc Bk.size (.cells #[.int .i64 0, .int .i64 0, .int .i64 0, .int .i64 0, .int .i64 0, .int .i64 0, .int .i64 0, .int .i64 0] 27)
              have hne := hR.lt
              have hR2 := hR.alloc (.cells #[.int .i64 0, .int .i64 0, .int .i64 0, .int .i64 0, .int .i64 0, .int .i64 0, .int .i64 0, .int .i64 0] 27)
              refine hK.out _ _ (MK.out _ Bk2) (fun hHeld2 => ?_)
              clear hK K hHeld Bk hR
              have hR := hR2
              clear hR2
              have Bk := Bk2
              have hHeld := hHeld2
              clear hHeld2 Bk2
              (try simp only [Act.put, List.getElem_toArray, List.getElem_cons_zero, List.getElem_cons_succ, List.setIfInBounds_toArray, List.set_cons_zero, List.set_cons_succ])
              generalize u.heap.size = T at *
              generalize u.alloc (.cells #[.int .i64 0, .int .i64 0, .int .i64 0, .int .i64 0, .int .i64 0, .int .i64 0, .int .i64 0, .int .i64 0] 27) = u at *
              refine wpAnyH_ready (rs := [6]) (by kernel_rfl) (by simp) ?_
              refine AllReadyH.cons rfl (fun K hK => ?_) AllReadyH.nil
              · have hst := hR.st A
                go_simp
                have hR2 := hR.set A
                have hT2 := hT.other (show T ≠ R by omega) (D A)
                have Bk2 := below_setRow Bk (show wv.heap.size ≤ R by omega) (D A)
                refine hK.out _ _ (MK.out _ Bk2) (fun hHeld2 => ?_)
                clear hK K hHeld hst Bk hR hT
                have hR := hR2
                have hT := hT2
                have Bk := Bk2
                have hHeld := hHeld2
                clear hHeld2 Bk2 hR2 hT2
                (try simp only [Act.put])
                generalize u.setRow R (D A) = u at *
                refine wpAnyH_ready (rs := [7]) (by kernel_rfl) (by simp) ?_
                refine AllReadyH.cons rfl (fun K hK => ?_) AllReadyH.nil
                · have hst := hT.st B
                  go_simp
                  have hT2 := hT.set B
                  have hR2 := hR.other (show R ≠ T by omega) (D B)
                  have Bk2 := below_setRow Bk (show wv.heap.size ≤ T by omega) (D B)
                  refine hK.out _ _ (MK.out _ Bk2) (fun hHeld2 => ?_)
                  clear hK K hHeld hst Bk hR hT
                  have hR := hR2
                  have hT := hT2
                  have Bk := Bk2
                  have hHeld := hHeld2
                  clear hHeld2 Bk2 hR2 hT2
                  (try simp only [Act.put])
                  generalize u.setRow T (D B) = u at *
                  refine wpAnyH_done (by kernel_rfl) ?_ _
                  go_wp2_with fail
                  go_meet
                  exact ⟨R, T, rfl, rfl, hR, hT, Bk⟩
          refine AllReadyH.cons rfl (fun K hK => ?_) AllReadyH.nil
          · go_simp
            have hT := Box.new u
            have hge : wv.heap.size ≤ u.heap.size := Bk.size
            have Bk2 := Bk.alloc Bk.size (.cells #[.int .i64 0, .int .i64 0, .int .i64 0, .int .i64 0, .int .i64 0, .int .i64 0, .int .i64 0, .int .i64 0] 27)
            have hne := hR.lt
            have hR2 := hR.alloc (.cells #[.int .i64 0, .int .i64 0, .int .i64 0, .int .i64 0, .int .i64 0, .int .i64 0, .int .i64 0, .int .i64 0] 27)
            refine hK.out _ _ (MK.out _ Bk2) (fun hHeld2 => ?_)
            clear hK K hHeld Bk hR
            have hR := hR2
            clear hR2
            have Bk := Bk2
            have hHeld := hHeld2
            clear hHeld2 Bk2
            (try simp only [Act.put, List.getElem_toArray, List.getElem_cons_zero, List.getElem_cons_succ, List.setIfInBounds_toArray, List.set_cons_zero, List.set_cons_succ])
            generalize u.heap.size = T at *
            generalize u.alloc (.cells #[.int .i64 0, .int .i64 0, .int .i64 0, .int .i64 0, .int .i64 0, .int .i64 0, .int .i64 0, .int .i64 0] 27) = u at *
            refine wpAnyH_ready (rs := [3]) (by kernel_rfl) (by simp) ?_
            refine AllReadyH.cons rfl (fun K hK => ?_) AllReadyH.nil
            · go_simp
              refine (DB.out _).mono ?_
              rintro e u ⟨rfl, hb⟩
              (try go_wp2_with fail)
              have Bk2 := Bk.trans (hb.mono Bk.size)
              have hR2 := hR.kept hb
              have hT2 := hT.kept hb
              refine hK.out _ _ (MK.out _ Bk2) (fun hHeld2 => ?_)
              clear hK K hHeld hb Bk hR hT
              have hR := hR2
              have hT := hT2
              have Bk := Bk2
              have hHeld := hHeld2
              clear hHeld2 Bk2 hR2 hT2
              (try simp only [Act.put, List.getElem_toArray, List.getElem_cons_zero, List.getElem_cons_succ, List.setIfInBounds_toArray, List.set_cons_zero, List.set_cons_succ])
              refine wpAnyH_ready (rs := [6]) (by kernel_rfl) (by simp) ?_
              refine AllReadyH.cons rfl (fun K hK => ?_) AllReadyH.nil
              · have hst := hR.st A
                go_simp
                have hR2 := hR.set A
                have hT2 := hT.other (show T ≠ R by omega) (D A)
                have Bk2 := below_setRow Bk (show wv.heap.size ≤ R by omega) (D A)
                refine hK.out _ _ (MK.out _ Bk2) (fun hHeld2 => ?_)
                clear hK K hHeld hst Bk hR hT
                have hR := hR2
                have hT := hT2
                have Bk := Bk2
                have hHeld := hHeld2
                clear hHeld2 Bk2 hR2 hT2
                (try simp only [Act.put])
                generalize u.setRow R (D A) = u at *
                refine wpAnyH_ready (rs := [7]) (by kernel_rfl) (by simp) ?_
                refine AllReadyH.cons rfl (fun K hK => ?_) AllReadyH.nil
                · have hst := hT.st B
                  go_simp
                  have hT2 := hT.set B
                  have hR2 := hR.other (show R ≠ T by omega) (D B)
                  have Bk2 := below_setRow Bk (show wv.heap.size ≤ T by omega) (D B)
                  refine hK.out _ _ (MK.out _ Bk2) (fun hHeld2 => ?_)
                  clear hK K hHeld hst Bk hR hT
                  have hR := hR2
                  have hT := hT2
                  have Bk := Bk2
                  have hHeld := hHeld2
                  clear hHeld2 Bk2 hR2 hT2
                  (try simp only [Act.put])
                  generalize u.setRow T (D B) = u at *
                  refine wpAnyH_done (by kernel_rfl) ?_ _
                  go_wp2_with fail
                  go_meet
                  exact ⟨R, T, rfl, rfl, hR, hT, Bk⟩
        refine AllReadyH.cons rfl (fun K hK => ?_) AllReadyH.nil
        · go_simp
          have hT := Box.new u
          have hge : wv.heap.size ≤ u.heap.size := Bk.size
          have Bk2 := Bk.alloc Bk.size (.cells #[.int .i64 0, .int .i64 0, .int .i64 0, .int .i64 0, .int .i64 0, .int .i64 0, .int .i64 0, .int .i64 0] 27)
          have hne := hR.lt
          have hR2 := hR.alloc (.cells #[.int .i64 0, .int .i64 0, .int .i64 0, .int .i64 0, .int .i64 0, .int .i64 0, .int .i64 0, .int .i64 0] 27)
          refine hK.out _ _ (MK.out _ Bk2) (fun hHeld2 => ?_)
          clear hK K hHeld Bk hR
          have hR := hR2
          clear hR2
          have Bk := Bk2
          have hHeld := hHeld2
          clear hHeld2 Bk2
          (try simp only [Act.put, List.getElem_toArray, List.getElem_cons_zero, List.getElem_cons_succ, List.setIfInBounds_toArray, List.set_cons_zero, List.set_cons_succ])
          generalize u.heap.size = T at *
          generalize u.alloc (.cells #[.int .i64 0, .int .i64 0, .int .i64 0, .int .i64 0, .int .i64 0, .int .i64 0, .int .i64 0, .int .i64 0] 27) = u at *
          refine wpAnyH_ready (rs := [1]) (by kernel_rfl) (by simp) ?_
          refine AllReadyH.cons rfl (fun K hK => ?_) AllReadyH.nil
          · go_simp
            refine (DA.out _).mono ?_
            rintro e u ⟨rfl, hb⟩
            (try go_wp2_with fail)
            have Bk2 := Bk.trans (hb.mono Bk.size)
            have hR2 := hR.kept hb
            have hT2 := hT.kept hb
            refine hK.out _ _ (MK.out _ Bk2) (fun hHeld2 => ?_)
            clear hK K hHeld hb Bk hR hT
            have hR := hR2
            have hT := hT2
            have Bk := Bk2
            have hHeld := hHeld2
            clear hHeld2 Bk2 hR2 hT2
            (try simp only [Act.put, List.getElem_toArray, List.getElem_cons_zero, List.getElem_cons_succ, List.setIfInBounds_toArray, List.set_cons_zero, List.set_cons_succ])
            refine wpAnyH_ready (rs := [3]) (by kernel_rfl) (by simp) ?_
            refine AllReadyH.cons rfl (fun K hK => ?_) AllReadyH.nil
            · go_simp
              refine (DB.out _).mono ?_
              rintro e u ⟨rfl, hb⟩
              (try go_wp2_with fail)
              have Bk2 := Bk.trans (hb.mono Bk.size)
              have hR2 := hR.kept hb
              have hT2 := hT.kept hb
              refine hK.out _ _ (MK.out _ Bk2) (fun hHeld2 => ?_)
              clear hK K hHeld hb Bk hR hT
              have hR := hR2
              have hT := hT2
              have Bk := Bk2
              have hHeld := hHeld2
              clear hHeld2 Bk2 hR2 hT2
              (try simp only [Act.put, List.getElem_toArray, List.getElem_cons_zero, List.getElem_cons_succ, List.setIfInBounds_toArray, List.set_cons_zero, List.set_cons_succ])
              refine wpAnyH_ready (rs := [6]) (by kernel_rfl) (by simp) ?_
              refine AllReadyH.cons rfl (fun K hK => ?_) AllReadyH.nil
              · have hst := hR.st A
                go_simp
                have hR2 := hR.set A
                have hT2 := hT.other (show T ≠ R by omega) (D A)
                have Bk2 := below_setRow Bk (show wv.heap.size ≤ R by omega) (D A)
                refine hK.out _ _ (MK.out _ Bk2) (fun hHeld2 => ?_)
                clear hK K hHeld hst Bk hR hT
                have hR := hR2
                have hT := hT2
                have Bk := Bk2
                have hHeld := hHeld2
                clear hHeld2 Bk2 hR2 hT2
                (try simp only [Act.put])
                generalize u.setRow R (D A) = u at *
                refine wpAnyH_ready (rs := [7]) (by kernel_rfl) (by simp) ?_
                refine AllReadyH.cons rfl (fun K hK => ?_) AllReadyH.nil
                · have hst := hT.st B
                  go_simp
                  have hT2 := hT.set B
                  have hR2 := hR.other (show R ≠ T by omega) (D B)
                  have Bk2 := below_setRow Bk (show wv.heap.size ≤ T by omega) (D B)
                  refine hK.out _ _ (MK.out _ Bk2) (fun hHeld2 => ?_)
                  clear hK K hHeld hst Bk hR hT
                  have hR := hR2
                  have hT := hT2
                  have Bk := Bk2
                  have hHeld := hHeld2
                  clear hHeld2 Bk2 hR2 hT2
                  (try simp only [Act.put])
                  generalize u.setRow T (D B) = u at *
                  refine wpAnyH_done (by kernel_rfl) ?_ _
                  go_wp2_with fail
                  go_meet
                  exact ⟨R, T, rfl, rfl, hR, hT, Bk⟩
      refine AllReadyH.cons rfl (fun K hK => ?_) AllReadyH.nil
      · go_simp
        have hT := Box.new u
        have hge : wv.heap.size ≤ u.heap.size := Bk.size
        have Bk2 := Bk.alloc Bk.size (.cells #[.int .i64 0, .int .i64 0, .int .i64 0, .int .i64 0, .int .i64 0, .int .i64 0, .int .i64 0, .int .i64 0] 27)
        refine hK.out _ _ (MK.out _ Bk2) (fun hHeld2 => ?_)
        clear hK K hHeld Bk
        have Bk := Bk2
        have hHeld := hHeld2
        clear hHeld2 Bk2
        (try simp only [Act.put, List.getElem_toArray, List.getElem_cons_zero, List.getElem_cons_succ, List.setIfInBounds_toArray, List.set_cons_zero, List.set_cons_succ])
        generalize u.heap.size = T at *
        generalize u.alloc (.cells #[.int .i64 0, .int .i64 0, .int .i64 0, .int .i64 0, .int .i64 0, .int .i64 0, .int .i64 0, .int .i64 0] 27) = u at *
        refine wpAnyH_ready (rs := [1, 4]) (by kernel_rfl) (by simp) ?_
        refine AllReadyH.cons rfl (fun K hK => ?_) ?_
        · go_simp
          refine (DA.out _).mono ?_
          rintro e u ⟨rfl, hb⟩
          (try go_wp2_with fail)
          have Bk2 := Bk.trans (hb.mono Bk.size)
          have hT2 := hT.kept hb
          refine hK.out _ _ (MK.out _ Bk2) (fun hHeld2 => ?_)
          clear hK K hHeld hb Bk hT
          have hT := hT2
          have Bk := Bk2
          have hHeld := hHeld2
          clear hHeld2 Bk2 hT2
          (try simp only [Act.put, List.getElem_toArray, List.getElem_cons_zero, List.getElem_cons_succ, List.setIfInBounds_toArray, List.set_cons_zero, List.set_cons_succ])
          refine wpAnyH_ready (rs := [3, 4]) (by kernel_rfl) (by simp) ?_
          refine AllReadyH.cons rfl (fun K hK => ?_) ?_
          · go_simp
            refine (DB.out _).mono ?_
            rintro e u ⟨rfl, hb⟩
            (try go_wp2_with fail)
            have Bk2 := Bk.trans (hb.mono Bk.size)
            have hT2 := hT.kept hb
            refine hK.out _ _ (MK.out _ Bk2) (fun hHeld2 => ?_)
            clear hK K hHeld hb Bk hT
            have hT := hT2
            have Bk := Bk2
            have hHeld := hHeld2
            clear hHeld2 Bk2 hT2
            (try simp only [Act.put, List.getElem_toArray, List.getElem_cons_zero, List.getElem_cons_succ, List.setIfInBounds_toArray, List.set_cons_zero, List.set_cons_succ])
            refine wpAnyH_ready (rs := [4]) (by kernel_rfl) (by simp) ?_
            refine AllReadyH.cons rfl (fun K hK => ?_) AllReadyH.nil
            · go_simp
              have hR := Box.new u
              have hge : wv.heap.size ≤ u.heap.size := Bk.size
              have Bk2 := Bk.alloc Bk.size (.cells #[.int .i64 0, .int .i64 0, .int .i64 0, .int .i64 0, .int .i64 0, .int .i64 0, .int .i64 0, .int .i64 0] 27)
              have hne := hT.lt
              have hT2 := hT.alloc (.cells #[.int .i64 0, .int .i64 0, .int .i64 0, .int .i64 0, .int .i64 0, .int .i64 0, .int .i64 0, .int .i64 0] 27)
              refine hK.out _ _ (MK.out _ Bk2) (fun hHeld2 => ?_)
              clear hK K hHeld Bk hT
              have hT := hT2
              clear hT2
              have Bk := Bk2
              have hHeld := hHeld2
              clear hHeld2 Bk2
              (try simp only [Act.put, List.getElem_toArray, List.getElem_cons_zero, List.getElem_cons_succ, List.setIfInBounds_toArray, List.set_cons_zero, List.set_cons_succ])
              generalize u.heap.size = R at *
              generalize u.alloc (.cells #[.int .i64 0, .int .i64 0, .int .i64 0, .int .i64 0, .int .i64 0, .int .i64 0, .int .i64 0, .int .i64 0] 27) = u at *
              refine wpAnyH_ready (rs := [6]) (by kernel_rfl) (by simp) ?_
              refine AllReadyH.cons rfl (fun K hK => ?_) AllReadyH.nil
              · have hst := hR.st A
                go_simp
                have hR2 := hR.set A
                have hT2 := hT.other (show T ≠ R by omega) (D A)
                have Bk2 := below_setRow Bk (show wv.heap.size ≤ R by omega) (D A)
                refine hK.out _ _ (MK.out _ Bk2) (fun hHeld2 => ?_)
                clear hK K hHeld hst Bk hR hT
                have hR := hR2
                have hT := hT2
                have Bk := Bk2
                have hHeld := hHeld2
                clear hHeld2 Bk2 hR2 hT2
                (try simp only [Act.put])
                generalize u.setRow R (D A) = u at *
                refine wpAnyH_ready (rs := [7]) (by kernel_rfl) (by simp) ?_
                refine AllReadyH.cons rfl (fun K hK => ?_) AllReadyH.nil
                · have hst := hT.st B
                  go_simp
                  have hT2 := hT.set B
                  have hR2 := hR.other (show R ≠ T by omega) (D B)
                  have Bk2 := below_setRow Bk (show wv.heap.size ≤ T by omega) (D B)
                  refine hK.out _ _ (MK.out _ Bk2) (fun hHeld2 => ?_)
                  clear hK K hHeld hst Bk hR hT
                  have hR := hR2
                  have hT := hT2
                  have Bk := Bk2
                  have hHeld := hHeld2
                  clear hHeld2 Bk2 hR2 hT2
                  (try simp only [Act.put])
                  generalize u.setRow T (D B) = u at *
                  refine wpAnyH_done (by kernel_rfl) ?_ _
                  go_wp2_with fail
                  go_meet
                  exact ⟨R, T, rfl, rfl, hR, hT, Bk⟩
          refine AllReadyH.cons rfl (fun K hK => ?_) AllReadyH.nil
          · go_simp
            have hR := Box.new u
            have hge : wv.heap.size ≤ u.heap.size := Bk.size
            have Bk2 := Bk.alloc Bk.size (.cells #[.int .i64 0, .int .i64 0, .int .i64 0, .int .i64 0, .int .i64 0, .int .i64 0, .int .i64 0, .int .i64 0] 27)
            have hne := hT.lt
            have hT2 := hT.alloc (.cells #[.int .i64 0, .int .i64 0, .int .i64 0, .int .i64 0, .int .i64 0, .int .i64 0, .int .i64 0, .int .i64 0] 27)
            refine hK.out _ _ (MK.out _ Bk2) (fun hHeld2 => ?_)
            clear hK K hHeld Bk hT
            have hT := hT2
            clear hT2
            have Bk := Bk2
            have hHeld := hHeld2
            clear hHeld2 Bk2
            (try simp only [Act.put, List.getElem_toArray, List.getElem_cons_zero, List.getElem_cons_succ, List.setIfInBounds_toArray, List.set_cons_zero, List.set_cons_succ])
            generalize u.heap.size = R at *
            generalize u.alloc (.cells #[.int .i64 0, .int .i64 0, .int .i64 0, .int .i64 0, .int .i64 0, .int .i64 0, .int .i64 0, .int .i64 0] 27) = u at *
            refine wpAnyH_ready (rs := [3]) (by kernel_rfl) (by simp) ?_
            refine AllReadyH.cons rfl (fun K hK => ?_) AllReadyH.nil
            · go_simp
              refine (DB.out _).mono ?_
              rintro e u ⟨rfl, hb⟩
              (try go_wp2_with fail)
              have Bk2 := Bk.trans (hb.mono Bk.size)
              have hR2 := hR.kept hb
              have hT2 := hT.kept hb
              refine hK.out _ _ (MK.out _ Bk2) (fun hHeld2 => ?_)
              clear hK K hHeld hb Bk hR hT
              have hR := hR2
              have hT := hT2
              have Bk := Bk2
              have hHeld := hHeld2
              clear hHeld2 Bk2 hR2 hT2
              (try simp only [Act.put, List.getElem_toArray, List.getElem_cons_zero, List.getElem_cons_succ, List.setIfInBounds_toArray, List.set_cons_zero, List.set_cons_succ])
              refine wpAnyH_ready (rs := [6]) (by kernel_rfl) (by simp) ?_
              refine AllReadyH.cons rfl (fun K hK => ?_) AllReadyH.nil
              · have hst := hR.st A
                go_simp
                have hR2 := hR.set A
                have hT2 := hT.other (show T ≠ R by omega) (D A)
                have Bk2 := below_setRow Bk (show wv.heap.size ≤ R by omega) (D A)
                refine hK.out _ _ (MK.out _ Bk2) (fun hHeld2 => ?_)
                clear hK K hHeld hst Bk hR hT
                have hR := hR2
                have hT := hT2
                have Bk := Bk2
                have hHeld := hHeld2
                clear hHeld2 Bk2 hR2 hT2
                (try simp only [Act.put])
                generalize u.setRow R (D A) = u at *
                refine wpAnyH_ready (rs := [7]) (by kernel_rfl) (by simp) ?_
                refine AllReadyH.cons rfl (fun K hK => ?_) AllReadyH.nil
                · have hst := hT.st B
                  go_simp
                  have hT2 := hT.set B
                  have hR2 := hR.other (show R ≠ T by omega) (D B)
                  have Bk2 := below_setRow Bk (show wv.heap.size ≤ T by omega) (D B)
                  refine hK.out _ _ (MK.out _ Bk2) (fun hHeld2 => ?_)
                  clear hK K hHeld hst Bk hR hT
                  have hR := hR2
                  have hT := hT2
                  have Bk := Bk2
                  have hHeld := hHeld2
                  clear hHeld2 Bk2 hR2 hT2
                  (try simp only [Act.put])
                  generalize u.setRow T (D B) = u at *
                  refine wpAnyH_done (by kernel_rfl) ?_ _
                  go_wp2_with fail
                  go_meet
                  exact ⟨R, T, rfl, rfl, hR, hT, Bk⟩
        refine AllReadyH.cons rfl (fun K hK => ?_) AllReadyH.nil
        · go_simp
          have hR := Box.new u
          have hge : wv.heap.size ≤ u.heap.size := Bk.size
          have Bk2 := Bk.alloc Bk.size (.cells #[.int .i64 0, .int .i64 0, .int .i64 0, .int .i64 0, .int .i64 0, .int .i64 0, .int .i64 0, .int .i64 0] 27)
          have hne := hT.lt
          have hT2 := hT.alloc (.cells #[.int .i64 0, .int .i64 0, .int .i64 0, .int .i64 0, .int .i64 0, .int .i64 0, .int .i64 0, .int .i64 0] 27)
          refine hK.out _ _ (MK.out _ Bk2) (fun hHeld2 => ?_)
          clear hK K hHeld Bk hT
          have hT := hT2
          clear hT2
          have Bk := Bk2
          have hHeld := hHeld2
          clear hHeld2 Bk2
          (try simp only [Act.put, List.getElem_toArray, List.getElem_cons_zero, List.getElem_cons_succ, List.setIfInBounds_toArray, List.set_cons_zero, List.set_cons_succ])
          generalize u.heap.size = R at *
          generalize u.alloc (.cells #[.int .i64 0, .int .i64 0, .int .i64 0, .int .i64 0, .int .i64 0, .int .i64 0, .int .i64 0, .int .i64 0] 27) = u at *
          refine wpAnyH_ready (rs := [1]) (by kernel_rfl) (by simp) ?_
          refine AllReadyH.cons rfl (fun K hK => ?_) AllReadyH.nil
          · go_simp
            refine (DA.out _).mono ?_
            rintro e u ⟨rfl, hb⟩
            (try go_wp2_with fail)
            have Bk2 := Bk.trans (hb.mono Bk.size)
            have hR2 := hR.kept hb
            have hT2 := hT.kept hb
            refine hK.out _ _ (MK.out _ Bk2) (fun hHeld2 => ?_)
            clear hK K hHeld hb Bk hR hT
            have hR := hR2
            have hT := hT2
            have Bk := Bk2
            have hHeld := hHeld2
            clear hHeld2 Bk2 hR2 hT2
            (try simp only [Act.put, List.getElem_toArray, List.getElem_cons_zero, List.getElem_cons_succ, List.setIfInBounds_toArray, List.set_cons_zero, List.set_cons_succ])
            refine wpAnyH_ready (rs := [3]) (by kernel_rfl) (by simp) ?_
            refine AllReadyH.cons rfl (fun K hK => ?_) AllReadyH.nil
            · go_simp
              refine (DB.out _).mono ?_
              rintro e u ⟨rfl, hb⟩
              (try go_wp2_with fail)
              have Bk2 := Bk.trans (hb.mono Bk.size)
              have hR2 := hR.kept hb
              have hT2 := hT.kept hb
              refine hK.out _ _ (MK.out _ Bk2) (fun hHeld2 => ?_)
              clear hK K hHeld hb Bk hR hT
              have hR := hR2
              have hT := hT2
              have Bk := Bk2
              have hHeld := hHeld2
              clear hHeld2 Bk2 hR2 hT2
              (try simp only [Act.put, List.getElem_toArray, List.getElem_cons_zero, List.getElem_cons_succ, List.setIfInBounds_toArray, List.set_cons_zero, List.set_cons_succ])
              refine wpAnyH_ready (rs := [6]) (by kernel_rfl) (by simp) ?_
              refine AllReadyH.cons rfl (fun K hK => ?_) AllReadyH.nil
              · have hst := hR.st A
                go_simp
                have hR2 := hR.set A
                have hT2 := hT.other (show T ≠ R by omega) (D A)
                have Bk2 := below_setRow Bk (show wv.heap.size ≤ R by omega) (D A)
                refine hK.out _ _ (MK.out _ Bk2) (fun hHeld2 => ?_)
                clear hK K hHeld hst Bk hR hT
                have hR := hR2
                have hT := hT2
                have Bk := Bk2
                have hHeld := hHeld2
                clear hHeld2 Bk2 hR2 hT2
                (try simp only [Act.put])
                generalize u.setRow R (D A) = u at *
                refine wpAnyH_ready (rs := [7]) (by kernel_rfl) (by simp) ?_
                refine AllReadyH.cons rfl (fun K hK => ?_) AllReadyH.nil
                · have hst := hT.st B
                  go_simp
                  have hT2 := hT.set B
                  have hR2 := hR.other (show R ≠ T by omega) (D B)
                  have Bk2 := below_setRow Bk (show wv.heap.size ≤ T by omega) (D B)
                  refine hK.out _ _ (MK.out _ Bk2) (fun hHeld2 => ?_)
                  clear hK K hHeld hst Bk hR hT
                  have hR := hR2
                  have hT := hT2
                  have Bk := Bk2
                  have hHeld := hHeld2
                  clear hHeld2 Bk2 hR2 hT2
                  (try simp only [Act.put])
                  generalize u.setRow T (D B) = u at *
                  refine wpAnyH_done (by kernel_rfl) ?_ _
                  go_wp2_with fail
                  go_meet
                  exact ⟨R, T, rfl, rfl, hR, hT, Bk⟩
    case rest =>
      obtain ⟨R, T, rfl, rfl, hR, hT, Bz⟩ := hcut
      generalize wc = wz at *
      obtain ⟨x0, x1, x2, x3, _⟩ := MK.out _ Bz
      obtain ⟨r0, r1, r2, r3, r4, r5, r6, r7⟩ := hR.cells
      obtain ⟨t0, t1, t2, t3, t4, t5, t6, t7⟩ := hT.cells
      have lP := block_lt_of_cell x0
      have lQ := block_lt_of_cell x2
      have lR := hR.lt
      have lT := hT.lt
      have M3 := Lib.hid (fun w' (hb : Below wz.heap.size wz w') => (show w'.cell? ⟨P, 0, none⟩ = some (.int .u64 (h : Int)) ∧ w'.cell? ⟨P, 1, none⟩ = some (.int .u64 (l : Int)) ∧ w'.cell? ⟨Q, 0, none⟩ = some (.int .u64 (g : Int)) ∧ w'.cell? ⟨Q, 1, none⟩ = some (.int .u64 (m : Int)) ∧ w'.cell? ⟨R, 0, none⟩ = some (.int .i64 (dg A 0)) ∧ w'.cell? ⟨R, 1, none⟩ = some (.int .i64 (dg A 1)) ∧ w'.cell? ⟨R, 2, none⟩ = some (.int .i64 (dg A 2)) ∧ w'.cell? ⟨R, 3, none⟩ = some (.int .i64 (dg A 3)) ∧ w'.cell? ⟨R, 4, none⟩ = some (.int .i64 (dg A 4)) ∧ w'.cell? ⟨R, 5, none⟩ = some (.int .i64 (dg A 5)) ∧ w'.cell? ⟨R, 6, none⟩ = some (.int .i64 (dg A 6)) ∧ w'.cell? ⟨R, 7, none⟩ = some (.int .i64 (dg A 7)) ∧ w'.cell? ⟨T, 0, none⟩ = some (.int .i64 (dg B 0)) ∧ w'.cell? ⟨T, 1, none⟩ = some (.int .i64 (dg B 1)) ∧ w'.cell? ⟨T, 2, none⟩ = some (.int .i64 (dg B 2)) ∧ w'.cell? ⟨T, 3, none⟩ = some (.int .i64 (dg B 3)) ∧ w'.cell? ⟨T, 4, none⟩ = some (.int .i64 (dg B 4)) ∧ w'.cell? ⟨T, 5, none⟩ = some (.int .i64 (dg B 5)) ∧ w'.cell? ⟨T, 6, none⟩ = some (.int .i64 (dg B 6)) ∧ w'.cell? ⟨T, 7, none⟩ = some (.int .i64 (dg B 7)) ∧ Below wz.heap.size wz w' from ⟨(hb.cell (p := ⟨P, 0, none⟩) lP).trans x0, (hb.cell (p := ⟨P, 1, none⟩) lP).trans x1, (hb.cell (p := ⟨Q, 0, none⟩) lQ).trans x2, (hb.cell (p := ⟨Q, 1, none⟩) lQ).trans x3, (hb.cell (p := ⟨R, 0, none⟩) lR).trans r0, (hb.cell (p := ⟨R, 1, none⟩) lR).trans r1, (hb.cell (p := ⟨R, 2, none⟩) lR).trans r2, (hb.cell (p := ⟨R, 3, none⟩) lR).trans r3, (hb.cell (p := ⟨R, 4, none⟩) lR).trans r4, (hb.cell (p := ⟨R, 5, none⟩) lR).trans r5, (hb.cell (p := ⟨R, 6, none⟩) lR).trans r6, (hb.cell (p := ⟨R, 7, none⟩) lR).trans r7, (hb.cell (p := ⟨T, 0, none⟩) lT).trans t0, (hb.cell (p := ⟨T, 1, none⟩) lT).trans t1, (hb.cell (p := ⟨T, 2, none⟩) lT).trans t2, (hb.cell (p := ⟨T, 3, none⟩) lT).trans t3, (hb.cell (p := ⟨T, 4, none⟩) lT).trans t4, (hb.cell (p := ⟨T, 5, none⟩) lT).trans t5, (hb.cell (p := ⟨T, 6, none⟩) lT).trans t6, (hb.cell (p := ⟨T, 7, none⟩) lT).trans t7, hb⟩))
      have K3 := Lib.hid (fun w1 w' (hS : w1.cell? ⟨P, 0, none⟩ = some (.int .u64 (h : Int)) ∧ w1.cell? ⟨P, 1, none⟩ = some (.int .u64 (l : Int)) ∧ w1.cell? ⟨Q, 0, none⟩ = some (.int .u64 (g : Int)) ∧ w1.cell? ⟨Q, 1, none⟩ = some (.int .u64 (m : Int)) ∧ w1.cell? ⟨R, 0, none⟩ = some (.int .i64 (dg A 0)) ∧ w1.cell? ⟨R, 1, none⟩ = some (.int .i64 (dg A 1)) ∧ w1.cell? ⟨R, 2, none⟩ = some (.int .i64 (dg A 2)) ∧ w1.cell? ⟨R, 3, none⟩ = some (.int .i64 (dg A 3)) ∧ w1.cell? ⟨R, 4, none⟩ = some (.int .i64 (dg A 4)) ∧ w1.cell? ⟨R, 5, none⟩ = some (.int .i64 (dg A 5)) ∧ w1.cell? ⟨R, 6, none⟩ = some (.int .i64 (dg A 6)) ∧ w1.cell? ⟨R, 7, none⟩ = some (.int .i64 (dg A 7)) ∧ w1.cell? ⟨T, 0, none⟩ = some (.int .i64 (dg B 0)) ∧ w1.cell? ⟨T, 1, none⟩ = some (.int .i64 (dg B 1)) ∧ w1.cell? ⟨T, 2, none⟩ = some (.int .i64 (dg B 2)) ∧ w1.cell? ⟨T, 3, none⟩ = some (.int .i64 (dg B 3)) ∧ w1.cell? ⟨T, 4, none⟩ = some (.int .i64 (dg B 4)) ∧ w1.cell? ⟨T, 5, none⟩ = some (.int .i64 (dg B 5)) ∧ w1.cell? ⟨T, 6, none⟩ = some (.int .i64 (dg B 6)) ∧ w1.cell? ⟨T, 7, none⟩ = some (.int .i64 (dg B 7)) ∧ Below wz.heap.size wz w1) (hb : Below w1.heap.size w1 w') => M3.out w' (hS.2.2.2.2.2.2.2.2.2.2.2.2.2.2.2.2.2.2.2.2.trans (hb.mono hS.2.2.2.2.2.2.2.2.2.2.2.2.2.2.2.2.2.2.2.2.size)))
      have M5 := Lib.hid (fun w' (hb : Below wz.heap.size wz w') => (show w'.cell? ⟨W.heap.size, 0, none⟩ = some (.int .u64 (h : Int)) ∧ w'.cell? ⟨W.heap.size, 1, none⟩ = some (.int .u64 (l : Int)) ∧ w'.cell? ⟨W.heap.size + 1, 0, none⟩ = some (.int .u64 (g : Int)) ∧ w'.cell? ⟨W.heap.size + 1, 1, none⟩ = some (.int .u64 (m : Int)) ∧ w'.cell? ⟨P, 0, none⟩ = some (.int .u64 (h : Int)) ∧ w'.cell? ⟨P, 1, none⟩ = some (.int .u64 (l : Int)) ∧ w'.cell? ⟨Q, 0, none⟩ = some (.int .u64 (g : Int)) ∧ w'.cell? ⟨Q, 1, none⟩ = some (.int .u64 (m : Int)) ∧ Below wz.heap.size wz w' from by
        have hb2 := Bz.trans (hb.mono Bz.size)
        obtain ⟨c0, c1, c2, c3⟩ := MA.out _ hb2
        exact ⟨c0, c1, c2, c3, (hb.cell (p := ⟨P, 0, none⟩) lP).trans x0, (hb.cell (p := ⟨P, 1, none⟩) lP).trans x1, (hb.cell (p := ⟨Q, 0, none⟩) lQ).trans x2, (hb.cell (p := ⟨Q, 1, none⟩) lQ).trans x3, hb⟩))
      have K5 := Lib.hid (fun w1 w' (hS : w1.cell? ⟨W.heap.size, 0, none⟩ = some (.int .u64 (h : Int)) ∧ w1.cell? ⟨W.heap.size, 1, none⟩ = some (.int .u64 (l : Int)) ∧ w1.cell? ⟨W.heap.size + 1, 0, none⟩ = some (.int .u64 (g : Int)) ∧ w1.cell? ⟨W.heap.size + 1, 1, none⟩ = some (.int .u64 (m : Int)) ∧ w1.cell? ⟨P, 0, none⟩ = some (.int .u64 (h : Int)) ∧ w1.cell? ⟨P, 1, none⟩ = some (.int .u64 (l : Int)) ∧ w1.cell? ⟨Q, 0, none⟩ = some (.int .u64 (g : Int)) ∧ w1.cell? ⟨Q, 1, none⟩ = some (.int .u64 (m : Int)) ∧ Below wz.heap.size wz w1) (hb : Below w1.heap.size w1 w') => M5.out w' (hS.2.2.2.2.2.2.2.2.trans (hb.mono hS.2.2.2.2.2.2.2.2.size)))
      have HBZ := Lib.hid (HBC.out.trans (Bz.mono HBC.out.size))
      clear r0 r1 r2 r3 r4 r5 r6 r7 t0 t1 t2 t3 t4 t5 t6 t7 hR hT MK MA
      go_wp2_with fail
      go_region_held3 (fun w' => w'.cell? ⟨P, 0, none⟩ = some (.int .u64 (h : Int)) ∧ w'.cell? ⟨P, 1, none⟩ = some (.int .u64 (l : Int)) ∧ w'.cell? ⟨Q, 0, none⟩ = some (.int .u64 (g : Int)) ∧ w'.cell? ⟨Q, 1, none⟩ = some (.int .u64 (m : Int)) ∧ w'.cell? ⟨R, 0, none⟩ = some (.int .i64 (dg A 0)) ∧ w'.cell? ⟨R, 1, none⟩ = some (.int .i64 (dg A 1)) ∧ w'.cell? ⟨R, 2, none⟩ = some (.int .i64 (dg A 2)) ∧ w'.cell? ⟨R, 3, none⟩ = some (.int .i64 (dg A 3)) ∧ w'.cell? ⟨R, 4, none⟩ = some (.int .i64 (dg A 4)) ∧ w'.cell? ⟨R, 5, none⟩ = some (.int .i64 (dg A 5)) ∧ w'.cell? ⟨R, 6, none⟩ = some (.int .i64 (dg A 6)) ∧ w'.cell? ⟨R, 7, none⟩ = some (.int .i64 (dg A 7)) ∧ w'.cell? ⟨T, 0, none⟩ = some (.int .i64 (dg B 0)) ∧ w'.cell? ⟨T, 1, none⟩ = some (.int .i64 (dg B 1)) ∧ w'.cell? ⟨T, 2, none⟩ = some (.int .i64 (dg B 2)) ∧ w'.cell? ⟨T, 3, none⟩ = some (.int .i64 (dg B 3)) ∧ w'.cell? ⟨T, 4, none⟩ = some (.int .i64 (dg B 4)) ∧ w'.cell? ⟨T, 5, none⟩ = some (.int .i64 (dg B 5)) ∧ w'.cell? ⟨T, 6, none⟩ = some (.int .i64 (dg B 6)) ∧ w'.cell? ⟨T, 7, none⟩ = some (.int .i64 (dg B 7)) ∧ Below wz.heap.size wz w') (first | exact M3.out _ ((Below.refl _ _).drew) | assumption | (refine K3.out _ _ ?_ hb; first | assumption | exact M3.out _ ((Below.refl _ _).drew))) ((first | (go_at_call 7; (with_reducible refine (AD.out _).mono ?_); rintro e w' ⟨rfl, hb⟩) | (go_at_call 6; (first | with_reducible refine (DS.out _).mono ?_ | with_reducible refine (DD.out _).mono ?_); rintro e w' ⟨rfl, hb⟩) | (go_at_call 8; (with_reducible refine (RA.out _).mono ?_); rintro e w' ⟨rfl, hb⟩) | (go_at_call 9; (with_reducible refine (SU.out _).mono ?_); rintro e w' ⟨rfl, hb⟩) | (go_at_call 10; (with_reducible refine (RS.out _).mono ?_); rintro e w' ⟨rfl, hb⟩) | (go_at_call 11; (with_reducible refine (CP.out _).mono ?_); rintro e w' ⟨rfl, hb⟩) | (go_at_call 12; (with_reducible refine (RC.out _).mono ?_); rintro e w' ⟨rfl, hb⟩)))
      rename_i hSS
      have hBB := hSS.2.2.2.2.2.2.2.2.2.2.2.2.2.2.2.2.2.2.2.2
      clear hSS
      go_wp2_with fail
      go_region_held3 (fun w' => w'.cell? ⟨W.heap.size, 0, none⟩ = some (.int .u64 (h : Int)) ∧ w'.cell? ⟨W.heap.size, 1, none⟩ = some (.int .u64 (l : Int)) ∧ w'.cell? ⟨W.heap.size + 1, 0, none⟩ = some (.int .u64 (g : Int)) ∧ w'.cell? ⟨W.heap.size + 1, 1, none⟩ = some (.int .u64 (m : Int)) ∧ w'.cell? ⟨P, 0, none⟩ = some (.int .u64 (h : Int)) ∧ w'.cell? ⟨P, 1, none⟩ = some (.int .u64 (l : Int)) ∧ w'.cell? ⟨Q, 0, none⟩ = some (.int .u64 (g : Int)) ∧ w'.cell? ⟨Q, 1, none⟩ = some (.int .u64 (m : Int)) ∧ Below wz.heap.size wz w') (first | exact M5.out _ hBB.drew | assumption | (refine K5.out _ _ ?_ hb; first | assumption | exact M5.out _ hBB.drew)) ((first | (go_at_call 13; (with_reducible refine (ML.out _).mono ?_); rintro e w' ⟨rfl, hb⟩) | (go_at_call 6; (with_reducible refine (DM.out _).mono ?_); rintro e w' ⟨rfl, hb⟩) | (go_at_call 14; (with_reducible refine (RM.out _).mono ?_); rintro e w' ⟨rfl, hb⟩) | (go_at_call 15; (with_reducible refine (OF.out _).mono ?_); rintro e w' ⟨rfl, hb⟩) | (go_at_call 7; (with_reducible refine (AD.out _).mono ?_); rintro e w' ⟨rfl, hb⟩) | (go_at_call 9; (with_reducible refine (BK.out _).mono ?_); rintro e w' ⟨rfl, hb⟩) | (go_at_call 16; (with_reducible refine (LV.out _).mono ?_); rintro e w' ⟨rfl, hb⟩)))
      rename_i hSS
      have hBC := hSS.2.2.2.2.2.2.2.2
      clear hSS
      go_wp2_with fail
      go_ret
      exact ⟨rfl, HBZ.out.trans (hBC.mono HBZ.out.size)⟩
theorem walk (W : World) (a0_0 : Int) (w0_0 : 0 ≤ a0_0 ∧ a0_0 ≤ 18446744073709551615) (a0_1 : Int) (w0_1 : 0 ≤ a0_1 ∧ a0_1 ≤ 18446744073709551615) (a1_0 : Int) (w1_0 : 0 ≤ a1_0 ∧ a1_0 ≤ 18446744073709551615) (a1_1 : Int) (w1_1 : 0 ≤ a1_1 ∧ a1_1 ≤ 18446744073709551615) :
    Calls Try.prog 3 #[.agg #[.int .u64 a0_0, .int .u64 a0_1], .agg #[.int .u64 a1_0, .int .u64 a1_1]] W fun e W' => e = .returned (.bool true) ∧ Below W.heap.size W W' := by
  obtain ⟨h, rfl⟩ := Int.eq_ofNat_of_zero_le w0_0.1
  obtain ⟨l, rfl⟩ := Int.eq_ofNat_of_zero_le w0_1.1
  obtain ⟨g, rfl⟩ := Int.eq_ofNat_of_zero_le w1_0.1
  obtain ⟨m, rfl⟩ := Int.eq_ofNat_of_zero_le w1_1.1
  exact main h l g m W (by omega) (by omega) (by omega) (by omega)
end wideTells
end Go.Proofs.Ytlmaacbjbmhogaa
