/- Reference 23's Check and Text. -/
import Derived.Test.YtakhgjhnljbfiaaDoorDtq
namespace Go.Proofs.YtakhgjhnljbfiaaDoor
open Go.ChangeShapes Go.WideShapes Go.ChangeAt Go.RowKit
set_option linter.unusedVariables false
set_option linter.unusedSimpArgs false
attribute [local go_sem ↓] Go.wp_at_zero Go.wp_at_succ
theorem okT_pre : ∀ f : Fo, f.okT ↔ ∀ x ∈ f.pre, okT1 x.k x.n
  | .nil => by simp [Fo.okT, Fo.pre]
  | .cons k n ks r => by
    have h1 := okT_pre ks
    have h2 := okT_pre r
    constructor
    · rintro ⟨a, b, c⟩ x hx
      simp only [Fo.pre, List.mem_cons, List.mem_append] at hx
      rcases hx with rfl | hx | hx
      · exact a
      · exact h1.1 b x hx
      · exact h2.1 c x hx
    · intro h
      refine ⟨h ⟨k, n, ks⟩ (by simp [Fo.pre]), h1.2 (fun x hx => h x (by simp [Fo.pre, hx])), h2.2 (fun x hx => h x (by simp [Fo.pre, hx]))⟩
theorem okT_list (k n : Int) (ks : Fo) : (Fo.cons k n ks .nil).okT ↔ ∀ x ∈ (Nd.mk k n ks :: ks.pre), okT1 x.k x.n := by
  rw [okT_pre]; simp [Fo.pre]
/-- What Check tells. -/
def ChkOk (k n : Int) (ks : Fo) (W : World) (e : Ending) (w' : World) : Prop := Below W.heap.size W w' ∧
  ((bigT ks ∧ e = .returned (.int .i64 12)) ∨ (¬ bigT ks ∧ ¬ (Fo.cons k n ks .nil).okT ∧ e = .returned (.int .i64 8)) ∨ (¬ bigT ks ∧ (Fo.cons k n ks .nil).okT ∧ e = .returned (.int .i64 0)))
set_option maxRecDepth 100000 in
set_option maxHeartbeats 8000000 in
theorem r23_check (ks : Fo) (v : Value) (k n : Int) (lim : Nat) (W : World) (hN : ks.cnt ≤ 1048576) (hK : Kids W lim v ks) (hl : lim ≤ W.heap.size) :
    Calls Tryd.prog 10 #[.agg #[.int .i64 k, .int .i64 n, v]] W (ChkOk k n ks W) := by
  obtain ⟨p, m, c, rfl, hc1, hc2, HM⟩ := hK.shape
  obtain ⟨w0, hw0, c0, c1, c2, hB0, hs0⟩ := box3 W k n (.slice p m c) 24
  have hK0 := hK.below hl hB0
  have BG := r23_big ks (.slice p m c) k n lim w0 hN hK0 (by omega)
  have HW0 := Lib.hid hw0
  clear hw0 hK HM
  by_cases hb : bigT ks
  · rw [decide_eq_true hb] at BG
    have HBB := Lib.hid hb
    clear hb
    go_enter Tryd.func10, Tryd.ntmps10
    go_wp2_with fail
    rw [← HW0.out]
    refine BG.mono ?_
    rintro e w1 ⟨rfl, hb1⟩
    go_wp2_with fail
    go_ret
    exact ⟨hB0.trans (hb1.mono hB0.size), .inl ⟨HBB.out, rfl⟩⟩
  · rw [decide_eq_false hb] at BG
    have HBB := Lib.hid hb
    clear hb
    go_enter Tryd.func10, Tryd.ntmps10
    go_wp2_with fail
    rw [← HW0.out]
    refine BG.mono ?_
    rintro e w1 ⟨rfl, hb1⟩
    have hz1 := hb1.size
    have d0 := (hb1.cell (p := ⟨W.heap.size, 0, none⟩) (show W.heap.size < w0.heap.size by omega)).trans c0
    have d1 := (hb1.cell (p := ⟨W.heap.size, 1, none⟩) (show W.heap.size < w0.heap.size by omega)).trans c1
    have d2 := (hb1.cell (p := ⟨W.heap.size, 2, none⟩) (show W.heap.size < w0.heap.size by omega)).trans c2
    have RL := r13_list 1048576 ks (.slice p m c) k n lim w1 hN (Nat.le_refl _) (hK0.below (by omega) hb1) (by omega)
    have HB1 := Lib.hid (hB0.trans (hb1.mono hB0.size))
    clear c0 c1 c2 BG HW0 hb1 hK0 hB0
    go_wp2_with fail
    refine RL.mono ?_
    rintro e w2 ⟨u, rfl, hO, hb2⟩
    have HB2 := Lib.hid (HB1.out.trans (hb2.mono HB1.out.size))
    obtain ⟨ua, uc, rfl, -, -, hcell⟩ := hO.shape
    have hln : (Nd.mk k n ks :: ks.pre).length ≤ 1048577 := by simp [Fo.pre_len]; omega
    have HOKL := Lib.hid (okT_list k n ks)
    obtain ⟨l, hl'⟩ : ∃ l, (Nd.mk k n ks :: ks.pre) = l := ⟨_, rfl⟩
    rw [hl'] at hcell hln HOKL ⊢
    obtain ⟨L, hL⟩ : ∃ L, l.length = L := ⟨_, rfl⟩
    rw [hL] at hln ⊢
    have HC := Lib.hid hcell
    have HL := Lib.hid hL
    clear d0 d1 d2 RL hb2 HB1 hO hcell hl' hL
    go_wp2_with fail
    go_loopw [4] (fun x wr => ∃ i : Nat, x = .int .i64 i ∧ i ≤ L ∧ Hid (∀ j (hj : j < l.length), j < i → okT1 l[j].k l[j].n) ∧ w2 = wr) (fun x _ => L - (intOf x).toNat)
    case atStart => exact ⟨0, rfl, Nat.zero_le _, Lib.hid (fun j _ hj => absurd hj (Nat.not_lt_zero _)), rfl⟩
    case round =>
      obtain ⟨i, rfl, hi, HA, rfl⟩ := hrel
      by_cases hlt : i < L
      · have hi2 : i < l.length := by rw [HL.out]; exact hlt
        obtain ⟨g, u, rfl, -, -, k0, k1, -⟩ := HC.out i hi2
        have e1 : decide ((i : Int) < (L : Int)) = true := decide_eq_true (by omega)
        have e1' : decide (i < L) = true := decide_eq_true hlt
        have HN := Lib.hid (fun (h : ¬ okT1 l[i].k l[i].n) => (fun h2 => h (HOKL.out.1 h2 _ (List.getElem_mem hi2)) : ¬ (Fo.cons k n ks .nil).okT))
        have HA2 := Lib.hid (fun (h : okT1 l[i].k l[i].n) => (fun j hj hji => by
          by_cases e : j = i
          · subst e; exact h
          · exact HA.out j hj (by omega) : ∀ j (hj : j < l.length), j < i + 1 → okT1 l[j].k l[j].n))
        generalize l[i].k = ki at *
        generalize l[i].n = ni at *
        clear HC HA
        by_cases h1 : ki < 1
        · have f1 : decide (ki < 1) = true := decide_eq_true h1
          have hno := Lib.hid (HN.out (fun h => by have := h.1; omega))
          go_wp2_with fail
          go_ret
          exact ⟨HB2.out, .inr (.inl ⟨HBB.out, hno.out, rfl⟩)⟩
        have f1 : decide (ki < 1) = false := decide_eq_false h1
        by_cases h2 : 7 < ki
        · have f2 : decide (ki > 7) = true := decide_eq_true h2
          have f2' : decide (7 < ki) = true := decide_eq_true h2
          have hno := Lib.hid (HN.out (fun h => by have := h.1; omega))
          go_wp2_with fail
          go_ret
          exact ⟨HB2.out, .inr (.inl ⟨HBB.out, hno.out, rfl⟩)⟩
        have f2 : decide (ki > 7) = false := decide_eq_false h2
        have f2' : decide (7 < ki) = false := decide_eq_false h2
        by_cases h3 : ni < 0
        · have f3 : decide (ni < 0) = true := decide_eq_true h3
          have hno := Lib.hid (HN.out (fun h => by have := h.2; omega))
          go_wp2_with fail
          go_ret
          exact ⟨HB2.out, .inr (.inl ⟨HBB.out, hno.out, rfl⟩)⟩
        have f3 : decide (ni < 0) = false := decide_eq_false h3
        by_cases h4 : 999999999 < ni
        · have f4 : decide (ni > 999999999) = true := decide_eq_true h4
          have f4' : decide (999999999 < ni) = true := decide_eq_true h4
          have hno := Lib.hid (HN.out (fun h => by have := h.2; omega))
          go_wp2_with fail
          go_ret
          exact ⟨HB2.out, .inr (.inl ⟨HBB.out, hno.out, rfl⟩)⟩
        have f4 : decide (ni > 999999999) = false := decide_eq_false h4
        have f4' : decide (999999999 < ni) = false := decide_eq_false h4
        have HA3 := Lib.hid (HA2.out ⟨⟨by omega, by omega⟩, by omega, by omega⟩)
        clear HA2 HN
        go_wp2_with fail
        go_roundw
        case rel => exact ⟨i + 1, by go_num, by omega, HA3, by first | rfl | trivial⟩
        case measure => (first | (simp [intOf]; done) | (simp [intOf]; omega) | (simp only [intOf]; omega))
      · obtain rfl : i = L := by omega
        have e1 : decide ((i : Int) < (i : Int)) = false := decide_eq_false (by omega)
        have hok := Lib.hid (HOKL.out.2 (fun x hx => by
          obtain ⟨j, hj, rfl⟩ := List.getElem_of_mem hx
          exact HA.out j hj (by have := HL.out; omega)))
        clear HA HC
        go_wp2_with fail
        go_ret
        exact ⟨HB2.out, .inr (.inr ⟨HBB.out, hok.out, rfl⟩)⟩
/-- A tree's text as a text. -/
def txS (k n : Int) (ks : Fo) : ByteArray := ⟨(ndB k n ks).toArray⟩
theorem txS_list (k n : Int) (ks : Fo) : (txS k n ks).data.toList = ndB k n ks := by simp [txS]
theorem txS_size (k n : Int) (ks : Fo) : (txS k n ks).size = (ndB k n ks).length := by rw [Lib.size_eq, txS_list]
theorem upB_len {k n : Int} {ks : Fo} {i : Nat} (h : (Fo.cons k n ks .nil).okT) (hi : i ≤ ks.len) (hc : ks.cnt ≤ 1000) : (upB k n ks i).length ≤ 20000 := by
  have h1 := hdB_le h.1
  have h2 := pt_le ks i (fun j _ hj => okT_at h.2.1 hj) hi
  unfold upB; rw [List.length_append]
  by_cases h0 : i = 0
  · rw [if_pos h0]; simp; omega
  · rw [if_neg h0]; simp; omega
set_option maxRecDepth 100000 in
set_option maxHeartbeats 8000000 in
theorem r23_text (N : Nat) : ∀ (ks : Fo) (v : Value) (k n : Int) (lim : Nat) (W : World), ks.cnt ≤ N → N ≤ 1000 → Kids W lim v ks → lim ≤ W.heap.size → (Fo.cons k n ks .nil).okT →
    Calls Tryd.prog 12 #[.agg #[.int .i64 k, .int .i64 n, v]] W fun e w' => e = .returned (.string (txS k n ks)) ∧ Below W.heap.size W w' := by
  induction N using Nat.strongRecOn with
  | _ N ih =>
  intro ks v k n lim W hN hN2 hK hl hok
  obtain ⟨p, m, c, rfl, hc1, hc2, HM⟩ := hK.shape
  obtain ⟨w0, hw0, c0, c1, c2, hB0, hs0⟩ := box3 W k n (.slice p m c) 24
  obtain ⟨q, hq⟩ : ∃ q : Nat, n = q := ⟨n.toNat, by have := hok.1.2; omega⟩
  have hq9 : q ≤ 999999999 := by have := hok.1.2; omega
  have hk7 := hok.1.1
  obtain ⟨x, hx⟩ : ∃ x, wrd k = x := ⟨_, rfl⟩
  obtain ⟨t, ht⟩ : ∃ t : ByteArray, (⟨(Lib.decDigits q).toArray⟩ : ByteArray) = t := ⟨_, rfl⟩
  have hxz : x.size ≤ 5 := by rw [← hx]; exact wrd_size k
  have htz : t.size ≤ 9 := by
    have := (dec_len hq9).2
    rw [Lib.size_eq, ← ht]; simpa using this
  have HHD : Hid ((x ++ t).data.toList = upB k n ks 0) := Lib.hid (by
    rw [ByteArray.data_append, Array.toList_append, upB_zero, hdB, hx, ← ht, hq]; rfl)
  have WD := Lib.hid (fun w => (by have := d_word23 k (by omega) w; rw [hx] at this; exact this : Calls Tryd.prog 32 #[.int .i64 k] w fun e w' => e = .returned (.string x) ∧ Below w.heap.size w w'))
  have DG := Lib.hid (fun w => ((ref_digits q hq9 w).mono (fun e w' h => by
    obtain ⟨h1, s, h2, h3⟩ := h
    have : s = t := by rw [← ht]; exact ba_ext (by simpa using h2)
    rw [this] at h3
    exact ⟨h3, h1⟩) : Calls Tryd.prog 33 #[.int .i64 q] w fun e w' => e = .returned (.string t) ∧ w = w'))
  have hadd : ∀ wx : World, (Op.stringOp .add x t).run Tryd.prog wx = .ok (.string (x ++ t)) wx := fun wx => run_string_add_sum wx _ _ (by omega)
  have hsz0 : (x ++ t).size ≤ 20000 := by rw [ByteArray.size_append]; omega
  obtain ⟨s0, hs0'⟩ : ∃ s0, x ++ t = s0 := ⟨_, rfl⟩
  rw [hs0'] at hadd HHD hsz0
  have HW0 := Lib.hid hw0
  have lX : W.heap.size < w0.heap.size := by omega
  have MK := Lib.hid (fun w' (hb : Below w0.heap.size w0 w') => (show w'.cell? ⟨W.heap.size, 0, none⟩ = some (.int .i64 k) ∧ w'.cell? ⟨W.heap.size, 1, none⟩ = some (.int .i64 n) ∧ w'.cell? ⟨W.heap.size, 2, none⟩ = some (.slice p m c) ∧ Below w0.heap.size w0 w' from
    ⟨(hb.cell (p := ⟨W.heap.size, 0, none⟩) lX).trans c0, (hb.cell (p := ⟨W.heap.size, 1, none⟩) lX).trans c1, (hb.cell (p := ⟨W.heap.size, 2, none⟩) lX).trans c2, hb⟩))
  have KP := Lib.hid (fun (w1 w' : World) (hS : w1.cell? ⟨W.heap.size, 0, none⟩ = some (.int .i64 k) ∧ w1.cell? ⟨W.heap.size, 1, none⟩ = some (.int .i64 n) ∧ w1.cell? ⟨W.heap.size, 2, none⟩ = some (.slice p m c) ∧ Below w0.heap.size w0 w1) (hb : Below w1.heap.size w1 w') => MK.out w' (hS.2.2.2.trans (hb.mono hS.2.2.2.size)))
  have HK0 := Lib.hid (hK.below hl hB0)
  have HOK := Lib.hid hok
  have IH := Lib.hid ih
  rw [← hq] at DG
  clear hw0 hK ih hok hq ht hx hs0' hxz htz
  have HBW := Lib.hid hB0
  clear hB0
  go_enter Tryd.func12, Tryd.ntmps12
  go_wp2_with fail
  rw [← HW0.out]
  generalize hX : W.heap.size = X at *
  go_region_held3 (fun w' => w'.cell? ⟨X, 0, none⟩ = some (.int .i64 k) ∧ w'.cell? ⟨X, 1, none⟩ = some (.int .i64 n) ∧ w'.cell? ⟨X, 2, none⟩ = some (.slice p m c) ∧ Below w0.heap.size w0 w') (first | exact MK.out _ ((Below.refl _ _).drew) | assumption | (refine KP.out _ _ ?_ hb; first | assumption | exact MK.out _ ((Below.refl _ _).drew))) (first | (go_at_call 32; (with_reducible refine (WD.out _).mono ?_); rintro e w' ⟨rfl, hb⟩) | (go_at_call 33; (with_reducible refine (DG.out _).mono ?_); rintro e w' ⟨rfl, rfl⟩))
  rename_i hSS
  obtain ⟨y0, y1, y2, hBB⟩ := hSS
  rename_i wz _ _
  have hBZ := Lib.hid hBB
  clear hBB y0 y1 y2
  go_wp2_with fail
  go_loopw [3, 4] (fun s y wr => ∃ (i : Nat) (z : ByteArray), s = .string z ∧ y = .int .i64 i ∧ i ≤ m ∧ Hid (z.data.toList = upB k n ks i) ∧ z.size ≤ 20000 ∧ Hid (Below w0.heap.size w0 wr)) (fun _ y _ => m - (intOf y).toNat)
  case atStart => exact ⟨0, s0, rfl, rfl, Nat.zero_le _, HHD, hsz0, hBZ⟩
  case round =>
    obtain ⟨i, z, rfl, rfl, hi, HZ, hzs, HBR⟩ := hrel
    obtain ⟨c0, c1, c2, -⟩ := MK.out _ HBR.out
    by_cases hlt : i < m
    · have hil : i < ks.len := by have := HM.out; omega
      have hbz := HBR.out.size
      obtain ⟨b, o, u, rfl, hb, k0, k1, k2, hKi⟩ := (HK0.out.carry (HBR.out.mono (by omega))).get hlt
      obtain ⟨ua, un, uc, rfl, -, -, -⟩ := hKi.shape
      have d1 : decide ((i : Int) < (m : Int)) = true := decide_eq_true (by omega)
      have d1' : decide (i < m) = true := decide_eq_true hlt
      have oki := okT_at HOK.out.2.1 hil
      have hci := Fo.cnt_kids ks i hil
      have TX := Lib.hid (fun w (hw : lim ≤ w.heap.size) (hKw : Kids w lim (.slice ua un uc) (ks.kids i)) => IH.out (N - 1) (by omega) (ks.kids i) (.slice ua un uc) (ks.k i) (ks.n i) lim w (by omega) (by omega) hKw hw ⟨oki.1, oki.2, trivial⟩)
      have HKI := Lib.hid hKi
      have htl := txB_le (.cons (ks.k i) (ks.n i) (ks.kids i) .nil) ⟨oki.1, oki.2, trivial⟩
      have htz : (txS (ks.k i) (ks.n i) (ks.kids i)).size ≤ 20000 := by
        rw [txS_size]
        have e : (ndB (ks.k i) (ks.n i) (ks.kids i)).length = (txB (.cons (ks.k i) (ks.n i) (ks.kids i) .nil)).length := rfl
        rw [e]
        have e2 : (Fo.cons (ks.k i) (ks.n i) (ks.kids i) .nil).cnt = (ks.kids i).cnt + 0 + 1 := rfl
        omega
      have HUL := Lib.hid (upB_len HOK.out (i := i + 1) (by omega) (by omega))
      have HTL := Lib.hid (txS_list (ks.k i) (ks.n i) (ks.kids i))
      have HUP0 := Lib.hid (fun (h0 : i = 0) => upB_first (k := k) (n := n) (ks := ks) (by omega))
      have HUP1 := Lib.hid (fun (h0 : i ≠ 0) => upB_next (k := k) (n := n) h0 hil)
      clear oki hci htl hKi hil
      obtain ⟨u0, hu0⟩ : ∃ u0, txS (ks.k i) (ks.n i) (ks.kids i) = u0 := ⟨_, rfl⟩
      rw [hu0] at TX htz HTL
      by_cases h0 : i = 0
      · subst h0
        simp only [Nat.zero_mul, Nat.add_zero] at k0 k1 k2
        have hf : ((0 : Int) == 0) = true := rfl
        have a1 : ∀ wx : World, (Op.stringOp .add z ⟨#[40]⟩).run Tryd.prog wx = .ok (.string (z ++ ⟨#[40]⟩)) wx := fun wx => run_string_add_sum wx _ _ (by show _ + 1 ≤ _; omega)
        obtain ⟨z1, hz1⟩ : ∃ z1, z ++ (⟨#[40]⟩ : ByteArray) = z1 := ⟨_, rfl⟩
        rw [hz1] at a1
        have hz1s : z1.size = z.size + 1 := by rw [← hz1, ByteArray.size_append]; rfl
        have a2 : ∀ wx : World, (Op.stringOp .add z1 u0).run Tryd.prog wx = .ok (.string (z1 ++ u0)) wx := fun wx => run_string_add_sum wx _ _ (by omega)
        obtain ⟨z2, hz2⟩ : ∃ z2, z1 ++ u0 = z2 := ⟨_, rfl⟩
        rw [hz2] at a2
        have HZ2 : Hid (z2.data.toList = upB k n ks (0 + 1)) := Lib.hid (by
          rw [← hz2, ← hz1, ByteArray.data_append, ByteArray.data_append, Array.toList_append, Array.toList_append, HZ.out, HTL.out, show 0 + 1 = 1 from rfl, HUP0.out rfl])
        have hz2s : z2.size ≤ 20000 := by rw [Lib.size_eq, HZ2.out]; exact HUL.out
        clear hz1 hz2 hu0 HUP0 HUP1 HTL HUL hz1s HZ
        generalize hki : ks.k 0 = ki at *
        generalize hni : ks.n 0 = ni at *
        go_wp2_with fail
        refine (TX.out _ (by omega) HKI.out).mono ?_
        rintro e w5 ⟨rfl, hb5⟩
        have HB5 := Lib.hid (HBR.out.trans (hb5.mono hbz))
        clear hb5
        go_wp2_with fail
        go_roundw
        case rel => exact ⟨0 + 1, z2, rfl, by go_num, by omega, HZ2, hz2s, HB5⟩
        case measure => (first | (simp [intOf]; done) | (simp [intOf]; omega) | (simp only [intOf]; omega))
      · have hf : ((i : Int) == 0) = false := by rw [beq_eq_false_iff_ne]; omega
        have hf' : (i == 0) = false := by rw [beq_eq_false_iff_ne]; exact h0
        have a1 : ∀ wx : World, (Op.stringOp .add z ⟨#[44]⟩).run Tryd.prog wx = .ok (.string (z ++ ⟨#[44]⟩)) wx := fun wx => run_string_add_sum wx _ _ (by show _ + 1 ≤ _; omega)
        obtain ⟨z1, hz1⟩ : ∃ z1, z ++ (⟨#[44]⟩ : ByteArray) = z1 := ⟨_, rfl⟩
        rw [hz1] at a1
        have hz1s : z1.size = z.size + 1 := by rw [← hz1, ByteArray.size_append]; rfl
        have a2 : ∀ wx : World, (Op.stringOp .add z1 u0).run Tryd.prog wx = .ok (.string (z1 ++ u0)) wx := fun wx => run_string_add_sum wx _ _ (by omega)
        obtain ⟨z2, hz2⟩ : ∃ z2, z1 ++ u0 = z2 := ⟨_, rfl⟩
        rw [hz2] at a2
        have HZ2 : Hid (z2.data.toList = upB k n ks (i + 1)) := Lib.hid (by
          rw [← hz2, ← hz1, ByteArray.data_append, ByteArray.data_append, Array.toList_append, Array.toList_append, HZ.out, HTL.out, HUP1.out h0])
        have hz2s : z2.size ≤ 20000 := by rw [Lib.size_eq, HZ2.out]; exact HUL.out
        clear hz1 hz2 hu0 HUP0 HUP1 HTL HUL hz1s HZ
        generalize hki : ks.k i = ki at *
        generalize hni : ks.n i = ni at *
        go_wp2_with fail
        refine (TX.out _ (by omega) HKI.out).mono ?_
        rintro e w5 ⟨rfl, hb5⟩
        have HB5 := Lib.hid (HBR.out.trans (hb5.mono hbz))
        clear hb5
        go_wp2_with fail
        go_roundw
        case rel => exact ⟨i + 1, z2, rfl, by go_num, by omega, HZ2, hz2s, HB5⟩
        case measure => (first | (simp [intOf]; done) | (simp [intOf]; omega) | (simp only [intOf]; omega))
    · obtain rfl : i = m := by omega
      have d1 : decide ((i : Int) < (i : Int)) = false := decide_eq_false (by omega)
      have HI0 := Lib.hid HM.out
      by_cases h0 : i = 0
      · have HE := Lib.hid (upB_none (k := k) (n := n) (show ks.len = 0 by have := HM.out; omega))
        have HR : Hid (z = txS k n ks) := Lib.hid (ba_ext (by rw [HZ.out, HI0.out, HE.out, txS_list]))
        subst h0
        clear HE HZ HM
        go_wp2_with fail
        go_ret
        exact ⟨by rw [HR.out]; rfl, by rw [hX]; exact HBW.out.trans (HBR.out.mono (by rw [← hX]; exact HBW.out.size))⟩
      · have HE := Lib.hid (upB_all (k := k) (n := n) (show ks.len ≠ 0 by have := HM.out; omega))
        have d2 : decide ((i : Int) > 0) = true := decide_eq_true (by omega)
        have d2' : decide (0 < i) = true := decide_eq_true (by omega)
        have a1 : ∀ wx : World, (Op.stringOp .add z ⟨#[41]⟩).run Tryd.prog wx = .ok (.string (z ++ ⟨#[41]⟩)) wx := fun wx => run_string_add_sum wx _ _ (by show _ + 1 ≤ _; omega)
        obtain ⟨z1, hz1⟩ : ∃ z1, z ++ (⟨#[41]⟩ : ByteArray) = z1 := ⟨_, rfl⟩
        rw [hz1] at a1
        have HR : Hid (z1 = txS k n ks) := Lib.hid (ba_ext (by rw [← hz1, ByteArray.data_append, Array.toList_append, HZ.out, HI0.out, txS_list, ← HE.out]))
        clear HE HZ HM hz1
        go_wp2_with fail
        go_ret
        exact ⟨by rw [HR.out]; rfl, by rw [hX]; exact HBW.out.trans (HBR.out.mono (by rw [← hX]; exact HBW.out.size))⟩
end Go.Proofs.YtakhgjhnljbfiaaDoor
