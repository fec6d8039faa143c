/- PermDigits: for any radices: the order of numbers whose digits are read the other way round; with the radices backwards its inverse; of twos that of bits; or why there is none. -/
import Derived.Test.YtkfjmmhcbbfhdaaPerm15
import Derived.Test.YtkfjmmhcbbfhdaaPerm4
namespace Go.Proofs.Ytkfjmmhcbbfhdaa
open Go.ChangeShapes Go.WideShapes Go.ChangeAt Go.RowKit
set_option linter.unusedVariables false
namespace permDigits
theorem long (W : World) (p : Option Addr) (m c : Nat) (xs : List Int) (h : 30 < m) (hs : m ≤ 9223372036854775807)
    (hr : ∀ k, k < m → ∃ b off, p = some ⟨b, off, none⟩ ∧ b < W.heap.size ∧ W.cell? ⟨b, off + k, none⟩ = some (.int .i64 (xs.getD k 0)) ∧ -9223372036854775808 ≤ xs.getD k 0 ∧ xs.getD k 0 ≤ 9223372036854775807) :
    Calls Try.prog 13 #[.slice p m c] W fun e W' => e = .returned (.bool true) ∧ Below W.heap.size W W' := by
  have PD := Lib.hid (r8_product p m c xs W hs hr)
  have dd : decide (30 < (m : Int)) = true := decide_eq_true (by omega)
  have dd' : decide (30 < m) = true := decide_eq_true h
  have hB : Below W.heap.size W W := Below.refl _ _
  clear hr
  go_enter Try.func13, Try.ntmps13
  go_wp2_with fail
  refine (PD.out).mono ?_
  rintro e w1 ⟨rfl, b1⟩
  have hB := hB.trans (b1.mono hB.size); clear b1
  go_wp2_with fail
  refine (live8 _).mono ?_
  rintro e w1 ⟨rfl, b1⟩
  have hB := hB.trans (b1.mono hB.size); clear b1
  go_wp2_with fail
  go_ret
  exact ⟨rfl, hB⟩
theorem great (W : World) (p : Option Addr) (m c : Nat) (xs : List Int) (hr : RowI W p m xs) (h : m ≤ 30) (hz : 400 < pzn xs m) :
    Calls Try.prog 13 #[.slice p m c] W fun e W' => e = .returned (.bool true) ∧ Below W.heap.size W W' := by
  have PD := Lib.hid (r8_product p m c xs W (by omega) (fun k hk => hr.cell hk))
  have dd : decide (30 < (m : Int)) = false := decide_eq_false (by omega)
  have dd' : decide (30 < m) = false := decide_eq_false (by omega)
  have hB : Below W.heap.size W W := Below.refl _ _
  clear hr
  generalize pzn xs m = z at *
  have d2 : decide (400 < (z : Int)) = true := decide_eq_true (by omega)
  have d2' : decide (400 < z) = true := decide_eq_true hz
  go_enter Try.func13, Try.ntmps13
  go_wp2_with fail
  refine (PD.out).mono ?_
  rintro e w1 ⟨rfl, b1⟩
  have hB := hB.trans (b1.mono hB.size); clear b1
  go_wp2_with fail
  refine (live8 _).mono ?_
  rintro e w1 ⟨rfl, b1⟩
  have hB := hB.trans (b1.mono hB.size); clear b1
  go_wp2_with fail
  go_ret
  exact ⟨rfl, hB⟩
theorem nothing (W : World) (p : Option Addr) (m c : Nat) (xs : List Int) (hr : RowI W p m xs) (h : m ≤ 30) (hz : pz xs m = none) :
    Calls Try.prog 13 #[.slice p m c] W fun e W' => e = .returned (.bool true) ∧ Below W.heap.size W W' := by
  have PD := r8_product p m c xs W (by omega) (fun k hk => hr.cell hk)
  rw [show pzn xs m = 0 by unfold pzn; rw [hz]; rfl] at PD
  have PD := Lib.hid PD
  have dd : decide (30 < (m : Int)) = false := decide_eq_false (by omega)
  have dd' : decide (30 < m) = false := decide_eq_false (by omega)
  have hB : Below W.heap.size W W := Below.refl _ _
  have DG := Lib.hid (fun w h => c_digitsno (c := c) (w := w) (p := p) h hz)
  have R0 := Lib.hid hr
  clear hr hz
  go_enter Try.func13, Try.ntmps13
  go_wp2_with fail
  refine (PD.out).mono ?_
  rintro e w1 ⟨rfl, b1⟩
  have R0 := Lib.hid (R0.out.below b1); have hB := hB.trans (b1.mono hB.size); clear b1
  go_wp2_with fail
  refine (DG.out _ R0.out).mono ?_
  rintro e w1 ⟨rfl, rfl⟩
  go_wp2_with fail
  refine (live8 _).mono ?_
  rintro e w1 ⟨rfl, b1⟩
  have hB := hB.trans (b1.mono hB.size); clear b1
  go_wp2_with fail
  go_ret
  exact ⟨rfl, hB⟩
/-- Are the first k all twos? -/
def all2 (ys : List Int) : Nat → Bool
  | 0 => true
  | k + 1 => all2 ys k && (ys.getD k 0 == 2)
theorem all2_yes {ys : List Int} : ∀ {k : Nat}, all2 ys k = true → ∀ j, j < k → ys.getD j 0 = 2
  | k + 1, h, j, hj => by
    rw [all2, Bool.and_eq_true] at h
    by_cases e : j = k
    · rw [e]; simpa using h.2
    · exact all2_yes h.1 j (by omega)
theorem back_at (rs : List Nat) (j : Nat) (hj : j < rs.length) : (ints rs.reverse).getD j 0 = (ints rs).getD (rs.length - 1 - j) 0 := by
  rw [ints_at, ints_at]
  simp only [List.getD]
  rw [List.getElem?_reverse hj]
theorem ints_wf {rs : List Nat} {w : World} {p : Option Addr} {m : Nat} (h : RowI w p m (ints rs)) : ∀ z ∈ ints rs.reverse, (Lit.int .i64 z).wf = true := by
  intro z hz
  refine h.wf z ?_
  unfold ints at *
  rw [List.map_reverse] at hz
  simpa using hz
set_option maxRecDepth 100000 in
theorem main (W : World) (p : Option Addr) (m c : Nat) (rs : List Nat) (hr : RowI W p m (ints rs)) (hc : m ≤ c) (h : m ≤ 30) (hm : m = rs.length) (hp : ∀ x ∈ rs, 2 ≤ x) (hN : prd rs ≤ 400) :
    Calls Try.prog 13 #[.slice p m c] W fun e W' => e = .returned (.bool true) ∧ Below W.heap.size W W' := by
  have hp' : ∀ x ∈ rs.reverse, 2 ≤ x := fun x hx => hp x (by simpa using hx)
  have hp0 : ∀ x ∈ rs, 0 < x := fun x hx => by have := hp x hx; omega
  have hN1 : 0 < prd rs := prd_pos rs hp0
  have PD := r8_product p m c (ints rs) W (by omega) (fun k hk => hr.cell hk)
  rw [show pzn (ints rs) m = prd rs by unfold pzn; rw [hm, pz_all rs hp (by omega)]; rfl] at PD
  have PD := Lib.hid PD
  have DG := Lib.hid (fun w (h : RowI w p m (ints rs)) => c_digits (c := c) h hm hp (by omega))
  have DB := Lib.hid (fun w q d (h : RowI w q m (ints rs.reverse)) => c_digits (c := d) h (by rw [List.length_reverse]; exact hm) hp' (by rw [prd_rev]; omega))
  have RD := Lib.hid (fun w (h : RowI w p m (ints rs)) => r8_digits rs p m c w hp (by omega) hm hc h)
  have IV := Lib.hid (fun w q d (h : RowI w q (prd rs) (dgl rs)) => perm_inverse q (prd rs) d (dgl rs) w h (dgl_right rs hp0))
  have IE := Lib.hid (dgl_inv rs hp0)
  have BI := Lib.hid (fun w => c_bits rs w (by omega) hp)
  have RE := Lib.hid (prd_rev rs)
  have WB := Lib.hid (ints_wf hr)
  have BL := Lib.hid (show (ints rs.reverse).length = m by rw [ints_len, List.length_reverse, hm])
  have BA := Lib.hid (fun i (hi : i < m) => (show (ints rs.reverse).getD (m - 1 - i) 0 = (ints rs).getD i 0 by rw [back_at rs _ (by omega)]; congr 1; omega))
  have TW := Lib.hid (fun (h : all2 (ints rs.reverse) m = true) => (show ∀ x ∈ rs, x = 2 by
    intro x hx
    have hx : x ∈ rs.reverse := by simpa using hx
    obtain ⟨i, hi, rfl⟩ := List.getElem_of_mem hx
    have := all2_yes h i (by rw [List.length_reverse] at hi; omega)
    rw [ints_at] at this
    simp only [List.getD, List.getElem?_eq_getElem hi, Option.getD_some] at this
    omega))
  have TS := Lib.hid (fun k => (show all2 (ints rs.reverse) (k + 1) = (all2 (ints rs.reverse) k && ((ints rs.reverse).getD k 0 == 2)) from rfl))
  have R0 := Lib.hid hr
  have hB : Below W.heap.size W W := Below.refl _ _
  have RB := Lib.hid (prd_rev rs)
  rw [RB.out] at DB
  have T0 := Lib.hid (show all2 (ints rs.reverse) 0 = true from rfl)
  clear hr hp hp' hp0 hm RB RE
  generalize dgl rs.reverse = qs at *
  generalize dgl rs = ps at *
  generalize ints rs.reverse = ys at *
  generalize ints rs = xs at *
  generalize prd rs = N at *
  have dd : decide (30 < (m : Int)) = false := decide_eq_false (by omega)
  have dd' : decide (30 < m) = false := decide_eq_false (by omega)
  have d2 : decide (400 < (N : Int)) = false := decide_eq_false (by omega)
  have d2' : decide (400 < N) = false := decide_eq_false (by omega)
  have e2 : ((N : Int) == 0) = false := by simp; omega
  have e2' : (N == 0) = false := by simp; omega
  go_enter Try.func13, Try.ntmps13
  go_wp2_with fail
  refine (PD.out).mono ?_
  rintro e w1 ⟨rfl, b1⟩
  have R0 := Lib.hid (R0.out.below b1); have hB := hB.trans (b1.mono hB.size); clear b1
  go_wp2_with fail
  refine (DG.out _ R0.out).mono ?_
  rintro e w1 ⟨p1, k1, rfl, h1, b1⟩
  have R1 := Lib.hid h1; clear h1
  have R0 := Lib.hid (R0.out.below b1); have hB := hB.trans (b1.mono hB.size); clear b1
  go_wp2_with fail
  have hB1 := hB
  obtain ⟨wo, rfl⟩ : ∃ wo : World, wo = w1 := ⟨_, rfl⟩
  go_loopw [6, 7, 8] (fun v t x wr => ∃ i : Nat, i ≤ m ∧ x = .int .i64 ((i : Int) - 1) ∧ t = .bool (all2 ys (m - i)) ∧ Hid (Owns wr wo.heap.size 3 .i64 v (upto ys (m - i))) ∧ Below wo.heap.size wo wr) (fun _ _ x _ => (intOf x + 1).toNat)
  case atStart => exact ⟨m, Nat.le_refl _, rfl, by rw [Nat.sub_self, T0.out], Lib.hid (by rw [Nat.sub_self]; exact Owns.nil _ _ _ _), Below.refl _ _⟩
  case round =>
    obtain ⟨i, hi, rfl, rfl, HO, hB2⟩ := hrel
    cases i with
    | succ i =>
      have ex : (((i + 1 : Nat) : Int) - 1) = (i : Int) := by omega
      rw [ex]
      have d3 : decide ((0 : Int) ≤ (i : Int)) = true := decide_eq_true (by omega)
      have g3 : m - (i + 1) = m - 1 - i := by omega
      rw [g3] at HO ⊢
      obtain ⟨j, hj⟩ : ∃ j, m - 1 - i = j := ⟨_, rfl⟩
      have hj1 : m - i = j + 1 := by omega
      have e1 := BA.out i (by omega)
      rw [hj] at HO e1 ⊢
      have TS1 := TS.out j
      rw [e1] at TS1
      obtain ⟨b, off, rfl, hb, hc0, x0, x1⟩ := R0.out.cell (k := i) (by omega)
      have hcx : wr.cell? ⟨b, off + i, none⟩ = some (.int .i64 (xs.getD i 0)) := (hB2.cell (p := ⟨b, off + i, none⟩) hb).trans hc0
      have hcf : ∀ w' : World, Below wo.heap.size wr w' → w'.cell? ⟨b, off + i, none⟩ = some (.int .i64 (xs.getD i 0)) := fun w' hb' => (hb'.cell (p := ⟨b, off + i, none⟩) hb).trans hcx
      clear hc0
      generalize xs.getD i 0 = x at *
      have HP := Lib.hid (upto_snoc ys j x (by rw [BL.out]; omega) e1)
      have HK := Lib.hid (upto_len ys j (by rw [BL.out]; omega))
      clear e1
      have hjm : j ≤ m := by omega
      clear hj g3
      cases ha : all2 ys j with
      | true =>
        rw [ha, Bool.true_and] at TS1
        go_wp2_with (at_builtin; refine append_one Try.underlying28 info_i64 rfl _ _ rfl rfl HO.out rfl hB2.size (by rw [HK.out]; omega) ?_; intro v' w' hO hb')
        have HO2 := Lib.hid (by have := hO; rw [HP.out] at this; exact this)
        have hc2 := hcf w' hb'
        clear hO
        go_wp2_with fail
        go_roundw
        case rel => exact ⟨i, by omega, by go_num, by rw [hj1, TS1], by rw [hj1]; exact HO2, hB2.trans hb'⟩
        case measure => (first | (simp [intOf]; done) | (simp [intOf]; omega) | (simp only [intOf]; omega))
      | false =>
        rw [ha, Bool.false_and] at TS1
        go_wp2_with (at_builtin; refine append_one Try.underlying28 info_i64 rfl _ _ rfl rfl HO.out rfl hB2.size (by rw [HK.out]; omega) ?_; intro v' w' hO hb')
        have HO2 := Lib.hid (by have := hO; rw [HP.out] at this; exact this)
        clear hO
        go_wp2_with fail
        go_roundw
        case rel => exact ⟨i, by omega, by go_num, by rw [hj1, TS1], by rw [hj1]; exact HO2, hB2.trans hb'⟩
        case measure => (first | (simp [intOf]; done) | (simp [intOf]; omega) | (simp only [intOf]; omega))
    | zero =>
      rw [Nat.sub_zero] at HO ⊢
      have HO3 := HO.out
      rw [upto_full ys m BL.out] at HO3
      obtain ⟨a, c', rfl, hr, _, _⟩ := HO3.shape
      rw [BL.out]
      have RY := Lib.hid (show RowI wr a m ys from ⟨BL.out, hr, WB.out, by omega⟩)
      have hB := hB1.trans (hB2.mono hB1.size)
      have R1 := Lib.hid (R1.out.below hB2)
      have R0 := Lib.hid (R0.out.below hB2)
      clear HO3 hr HO hB2 hB1 WB TS BA BL
      go_wp2_with fail
      refine (DB.out _ _ _ RY.out).mono ?_
      rintro e w1 ⟨p2, k2, rfl, h1, b1⟩
      have R2 := Lib.hid h1; clear h1
      have R0 := Lib.hid (R0.out.below b1); have R1 := Lib.hid (R1.out.below b1); have hB := hB.trans (b1.mono hB.size); clear b1
      go_wp2_with fail
      refine (IV.out _ _ _ R1.out).mono ?_
      rintro e w1 ⟨p3, k3, rfl, h1, b1⟩
      rw [IE.out] at h1
      have R3 := Lib.hid h1; clear h1
      have R0 := Lib.hid (R0.out.below b1); have R1 := Lib.hid (R1.out.below b1); have R2 := Lib.hid (R2.out.below b1); have hB := hB.trans (b1.mono hB.size); clear b1
      go_wp2_with fail
      refine (RD.out _ R0.out).mono ?_
      rintro e w1 ⟨p4, k4, rfl, h1, b1⟩
      have R4 := Lib.hid h1; clear h1
      have R1 := Lib.hid (R1.out.below b1); have R2 := Lib.hid (R2.out.below b1); have R3 := Lib.hid (R3.out.below b1); have hB := hB.trans (b1.mono hB.size); clear b1
      go_wp2_with fail
      refine (c_samei R1.out R4.out).mono ?_
      rintro e w1 ⟨rfl, b1⟩
      have R1 := Lib.hid (R1.out.below b1); have R2 := Lib.hid (R2.out.below b1); have R3 := Lib.hid (R3.out.below b1); have hB := hB.trans (b1.mono hB.size); clear b1
      go_wp2_with fail
      refine (c_samei R2.out R3.out).mono ?_
      rintro e w1 ⟨rfl, b1⟩
      have R1 := Lib.hid (R1.out.below b1); have hB := hB.trans (b1.mono hB.size); clear b1
      go_wp2_with fail
      refine (BI.out _).mono ?_
      rintro e w1 ⟨p5, l5, k5, z5, rfl, h5, b1⟩
      cases ha : all2 ys m with
      | false =>
        have hB := hB.trans (b1.mono hB.size); clear b1
        clear h5
        go_wp2_with fail
        refine (live8 _).mono ?_
        rintro e w1 ⟨rfl, b1⟩
        have hB := hB.trans (b1.mono hB.size); clear b1
        go_wp2_with fail
        go_ret
        exact ⟨rfl, hB⟩
      | true =>
        obtain ⟨rfl, h6⟩ := h5 (TW.out ha)
        have R5 := Lib.hid h6; clear h6
        have R1 := Lib.hid (R1.out.below b1); have hB := hB.trans (b1.mono hB.size); clear b1
        go_wp2_with fail
        refine (c_samei R1.out R5.out).mono ?_
        rintro e w1 ⟨rfl, b1⟩
        have hB := hB.trans (b1.mono hB.size); clear b1
        go_wp2_with fail
        refine (live8 _).mono ?_
        rintro e w1 ⟨rfl, b1⟩
        have hB := hB.trans (b1.mono hB.size); clear b1
        go_wp2_with fail
        go_ret
        exact ⟨rfl, hB⟩
theorem walk (W : World) (a0 : Option Addr) (n0 c0 : Nat) (w0 : IsRow .i64 W a0 n0 c0) :
    Calls Try.prog 13 #[.slice a0 n0 c0] W fun e W' => e = .returned (.bool true) ∧ Below W.heap.size W W' := by
  by_cases h : 30 < n0
  · obtain ⟨xs, hl, hc, hs, hr, hw⟩ := w0
    refine long W a0 n0 c0 xs h hs (fun k hk => ?_)
    rcases hr with hn | ⟨b, off, e, hb, hcell⟩
    · rw [hn] at hl; simp at hl; omega
    · refine ⟨b, off, e, hb, hcell k (by omega), ?_⟩
      have e : xs.getD k 0 = xs[k]'(by omega) := by simp [List.getD, show k < xs.length by omega]
      rw [e]; exact bounds_i64 (hw _ (List.getElem_mem _))
  · have hc : n0 ≤ c0 := by obtain ⟨xs, hl, hc, _⟩ := w0; exact hc
    obtain ⟨xs, hx⟩ := RowI.of_isRow w0 (by omega)
    cases hz : pz xs n0 with
    | none => exact nothing W a0 n0 c0 xs hx (by omega) hz
    | some N =>
      obtain ⟨e1, e2, e3, e4⟩ := pz_prd (by rw [hx.len]; exact Nat.le_refl _) hz
      by_cases hg : 400 < N
      · exact great W a0 n0 c0 xs hx (by omega) (by unfold pzn; rw [hz]; exact hg)
      · have hall : ∀ x ∈ xs, 2 ≤ x := by
          intro x hx'
          obtain ⟨i, hi, rfl⟩ := List.getElem_of_mem hx'
          have := e2 i (by rw [← hx.len]; exact hi)
          simpa [List.getD, hi] using this
        have hi := ints_nats xs (fun x hx' => by have := hall x hx'; omega)
        have hlen : n0 = (nats xs).length := by unfold nats; rw [List.length_map, hx.len]
        rw [List.take_of_length_le (by omega)] at e1
        refine main W a0 n0 c0 (nats xs) (by rw [hi]; exact hx) hc (by omega) hlen ?_ (by omega)
        intro x hx'
        unfold nats at hx'
        obtain ⟨z, hz', rfl⟩ := List.mem_map.1 hx'
        have := hall z hz'
        omega
end permDigits
end Go.Proofs.Ytkfjmmhcbbfhdaa
