/- Reference 23's Check and Text. -/
import Derived.Test.YtakhgjhnljbfiaaGreatDoorDtq
namespace Go.Proofs.YtakhgjhnljbfiaaGreatDoor
open Go.ChangeShapes Go.WideShapes Go.ChangeAt Go.RowKit
set_option linter.unusedVariables false
set_option linter.unusedSimpArgs false
attribute [local go_sem ↓] Go.wp_at_zero Go.wp_at_succ
theorem okT_pre : ∀ f : Fo, f.okT ↔ ∀ x ∈ f.pre, okT1 x.k x.n
  | .nil => by simp [Fo.okT, Fo.pre]
  | .cons k n ks r => by
    have h1 := okT_pre ks
    have h2 := okT_pre r
    constructor
    · rintro ⟨a, b, c⟩ x hx
      simp only [Fo.pre, List.mem_cons, List.mem_append] at hx
      rcases hx with rfl | hx | hx
      · exact a
      · exact h1.1 b x hx
      · exact h2.1 c x hx
    · intro h
      refine ⟨h ⟨k, n, ks⟩ (by simp [Fo.pre]), h1.2 (fun x hx => h x (by simp [Fo.pre, hx])), h2.2 (fun x hx => h x (by simp [Fo.pre, hx]))⟩
theorem okT_list (k n : Int) (ks : Fo) : (Fo.cons k n ks .nil).okT ↔ ∀ x ∈ (Nd.mk k n ks :: ks.pre), okT1 x.k x.n := by
  rw [okT_pre]; simp [Fo.pre]
/-- What Check tells. -/
def ChkOk (k n : Int) (ks : Fo) (W : World) (e : Ending) (w' : World) : Prop := Below W.heap.size W w' ∧
  ((bigT ks ∧ e = .returned (.int .i64 12)) ∨ (¬ bigT ks ∧ ¬ (Fo.cons k n ks .nil).okT ∧ e = .returned (.int .i64 8)) ∨ (¬ bigT ks ∧ (Fo.cons k n ks .nil).okT ∧ e = .returned (.int .i64 0)))
/-- A tree's text as a text. -/
def txS (k n : Int) (ks : Fo) : ByteArray := ⟨(ndB k n ks).toArray⟩
theorem txS_list (k n : Int) (ks : Fo) : (txS k n ks).data.toList = ndB k n ks := by simp [txS]
theorem txS_size (k n : Int) (ks : Fo) : (txS k n ks).size = (ndB k n ks).length := by rw [Lib.size_eq, txS_list]
theorem upB_len {k n : Int} {ks : Fo} {i : Nat} (h : (Fo.cons k n ks .nil).okT) (hi : i ≤ ks.len) (hc : ks.cnt ≤ 1000) : (upB k n ks i).length ≤ 20000 := by
  have h1 := hdB_le h.1
  have h2 := pt_le ks i (fun j _ hj => okT_at h.2.1 hj) hi
  unfold upB; rw [List.length_append]
  by_cases h0 : i = 0
  · rw [if_pos h0]; simp; omega
  · rw [if_neg h0]; simp; omega
set_option maxRecDepth 100000 in
set_option maxHeartbeats 8000000 in
theorem r23_text (N : Nat) : ∀ (ks : Fo) (v : Value) (k n : Int) (lim : Nat) (W : World), ks.cnt ≤ N → N ≤ 1000 → Kids W lim v ks → lim ≤ W.heap.size → (Fo.cons k n ks .nil).okT →
    Calls Tryz.prog 37 #[.agg #[.int .i64 k, .int .i64 n, v]] W fun e w' => e = .returned (.string (txS k n ks)) ∧ Below W.heap.size W w' := by
  induction N using Nat.strongRecOn with
  | _ N ih =>
  intro ks v k n lim W hN hN2 hK hl hok
  obtain ⟨p, m, c, rfl, hc1, hc2, HM⟩ := hK.shape
  obtain ⟨w0, hw0, c0, c1, c2, hB0, hs0⟩ := box3 W k n (.slice p m c) 26
  obtain ⟨q, hq⟩ : ∃ q : Nat, n = q := ⟨n.toNat, by have := hok.1.2; omega⟩
  have hq9 : q ≤ 999999999 := by have := hok.1.2; omega
  have hk7 := hok.1.1
  obtain ⟨x, hx⟩ : ∃ x, wrd k = x := ⟨_, rfl⟩
  obtain ⟨t, ht⟩ : ∃ t : ByteArray, (⟨(Lib.decDigits q).toArray⟩ : ByteArray) = t := ⟨_, rfl⟩
  have hxz : x.size ≤ 5 := by rw [← hx]; exact wrd_size k
  have htz : t.size ≤ 9 := by
    have := (dec_len hq9).2
    rw [Lib.size_eq, ← ht]; simpa using this
  have HHD : Hid ((x ++ t).data.toList = upB k n ks 0) := Lib.hid (by
    rw [ByteArray.data_append, Array.toList_append, upB_zero, hdB, hx, ← ht, hq]; rfl)
  have WD := Lib.hid (fun w => (by have := d_word23 k (by omega) w; rw [hx] at this; exact this : Calls Tryz.prog 63 #[.int .i64 k] w fun e w' => e = .returned (.string x) ∧ Below w.heap.size w w'))
  have DG := Lib.hid (fun w => ((ref_digits q hq9 w).mono (fun e w' h => by
    obtain ⟨h1, s, h2, h3⟩ := h
    have : s = t := by rw [← ht]; exact ba_ext (by simpa using h2)
    rw [this] at h3
    exact ⟨h3, h1⟩) : Calls Tryz.prog 36 #[.int .i64 q] w fun e w' => e = .returned (.string t) ∧ w = w'))
  have hadd : ∀ wx : World, (Op.stringOp .add x t).run Tryz.prog wx = .ok (.string (x ++ t)) wx := fun wx => run_string_add_sum wx _ _ (by omega)
  have hsz0 : (x ++ t).size ≤ 20000 := by rw [ByteArray.size_append]; omega
  obtain ⟨s0, hs0'⟩ : ∃ s0, x ++ t = s0 := ⟨_, rfl⟩
  rw [hs0'] at hadd HHD hsz0
  have HW0 := Lib.hid hw0
  have lX : W.heap.size < w0.heap.size := by omega
  have MK := Lib.hid (fun w' (hb : Below w0.heap.size w0 w') => (show w'.cell? ⟨W.heap.size, 0, none⟩ = some (.int .i64 k) ∧ w'.cell? ⟨W.heap.size, 1, none⟩ = some (.int .i64 n) ∧ w'.cell? ⟨W.heap.size, 2, none⟩ = some (.slice p m c) ∧ Below w0.heap.size w0 w' from
    ⟨(hb.cell (p := ⟨W.heap.size, 0, none⟩) lX).trans c0, (hb.cell (p := ⟨W.heap.size, 1, none⟩) lX).trans c1, (hb.cell (p := ⟨W.heap.size, 2, none⟩) lX).trans c2, hb⟩))
  have KP := Lib.hid (fun (w1 w' : World) (hS : w1.cell? ⟨W.heap.size, 0, none⟩ = some (.int .i64 k) ∧ w1.cell? ⟨W.heap.size, 1, none⟩ = some (.int .i64 n) ∧ w1.cell? ⟨W.heap.size, 2, none⟩ = some (.slice p m c) ∧ Below w0.heap.size w0 w1) (hb : Below w1.heap.size w1 w') => MK.out w' (hS.2.2.2.trans (hb.mono hS.2.2.2.size)))
  have HK0 := Lib.hid (hK.below hl hB0)
  have HOK := Lib.hid hok
  have IH := Lib.hid ih
  rw [← hq] at DG
  clear hw0 hK ih hok hq ht hx hs0' hxz htz
  have HBW := Lib.hid hB0
  clear hB0
  go_enter Tryz.func37, Tryz.ntmps37
  go_wp2_with fail
  rw [← HW0.out]
  generalize hX : W.heap.size = X at *
  go_region_held3 (fun w' => w'.cell? ⟨X, 0, none⟩ = some (.int .i64 k) ∧ w'.cell? ⟨X, 1, none⟩ = some (.int .i64 n) ∧ w'.cell? ⟨X, 2, none⟩ = some (.slice p m c) ∧ Below w0.heap.size w0 w') (first | exact MK.out _ ((Below.refl _ _).drew) | assumption | (refine KP.out _ _ ?_ hb; first | assumption | exact MK.out _ ((Below.refl _ _).drew))) (first | (go_at_call 63; (with_reducible refine (WD.out _).mono ?_); rintro e w' ⟨rfl, hb⟩) | (go_at_call 36; (with_reducible refine (DG.out _).mono ?_); rintro e w' ⟨rfl, rfl⟩))
  rename_i hSS
  obtain ⟨y0, y1, y2, hBB⟩ := hSS
  rename_i wz _ _
  have hBZ := Lib.hid hBB
  clear hBB y0 y1 y2
  go_wp2_with fail
  go_loopw [3, 4] (fun s y wr => ∃ (i : Nat) (z : ByteArray), s = .string z ∧ y = .int .i64 i ∧ i ≤ m ∧ Hid (z.data.toList = upB k n ks i) ∧ z.size ≤ 20000 ∧ Hid (Below w0.heap.size w0 wr)) (fun _ y _ => m - (intOf y).toNat)
  case atStart => exact ⟨0, s0, rfl, rfl, Nat.zero_le _, HHD, hsz0, hBZ⟩
  case round =>
    obtain ⟨i, z, rfl, rfl, hi, HZ, hzs, HBR⟩ := hrel
    obtain ⟨c0, c1, c2, -⟩ := MK.out _ HBR.out
    by_cases hlt : i < m
    · have hil : i < ks.len := by have := HM.out; omega
      have hbz := HBR.out.size
      obtain ⟨b, o, u, rfl, hb, k0, k1, k2, hKi⟩ := (HK0.out.carry (HBR.out.mono (by omega))).get hlt
      obtain ⟨ua, un, uc, rfl, -, -, -⟩ := hKi.shape
      have d1 : decide ((i : Int) < (m : Int)) = true := decide_eq_true (by omega)
      have d1' : decide (i < m) = true := decide_eq_true hlt
      have oki := okT_at HOK.out.2.1 hil
      have hci := Fo.cnt_kids ks i hil
      have TX := Lib.hid (fun w (hw : lim ≤ w.heap.size) (hKw : Kids w lim (.slice ua un uc) (ks.kids i)) => IH.out (N - 1) (by omega) (ks.kids i) (.slice ua un uc) (ks.k i) (ks.n i) lim w (by omega) (by omega) hKw hw ⟨oki.1, oki.2, trivial⟩)
      have HKI := Lib.hid hKi
      have htl := txB_le (.cons (ks.k i) (ks.n i) (ks.kids i) .nil) ⟨oki.1, oki.2, trivial⟩
      have htz : (txS (ks.k i) (ks.n i) (ks.kids i)).size ≤ 20000 := by
        rw [txS_size]
        have e : (ndB (ks.k i) (ks.n i) (ks.kids i)).length = (txB (.cons (ks.k i) (ks.n i) (ks.kids i) .nil)).length := rfl
        rw [e]
        have e2 : (Fo.cons (ks.k i) (ks.n i) (ks.kids i) .nil).cnt = (ks.kids i).cnt + 0 + 1 := rfl
        omega
      have HUL := Lib.hid (upB_len HOK.out (i := i + 1) (by omega) (by omega))
      have HTL := Lib.hid (txS_list (ks.k i) (ks.n i) (ks.kids i))
      have HUP0 := Lib.hid (fun (h0 : i = 0) => upB_first (k := k) (n := n) (ks := ks) (by omega))
      have HUP1 := Lib.hid (fun (h0 : i ≠ 0) => upB_next (k := k) (n := n) h0 hil)
      clear oki hci htl hKi hil
      obtain ⟨u0, hu0⟩ : ∃ u0, txS (ks.k i) (ks.n i) (ks.kids i) = u0 := ⟨_, rfl⟩
      rw [hu0] at TX htz HTL
      by_cases h0 : i = 0
      · subst h0
        simp only [Nat.zero_mul, Nat.add_zero] at k0 k1 k2
        have hf : ((0 : Int) == 0) = true := rfl
        have a1 : ∀ wx : World, (Op.stringOp .add z ⟨#[40]⟩).run Tryz.prog wx = .ok (.string (z ++ ⟨#[40]⟩)) wx := fun wx => run_string_add_sum wx _ _ (by show _ + 1 ≤ _; omega)
        obtain ⟨z1, hz1⟩ : ∃ z1, z ++ (⟨#[40]⟩ : ByteArray) = z1 := ⟨_, rfl⟩
        rw [hz1] at a1
        have hz1s : z1.size = z.size + 1 := by rw [← hz1, ByteArray.size_append]; rfl
        have a2 : ∀ wx : World, (Op.stringOp .add z1 u0).run Tryz.prog wx = .ok (.string (z1 ++ u0)) wx := fun wx => run_string_add_sum wx _ _ (by omega)
        obtain ⟨z2, hz2⟩ : ∃ z2, z1 ++ u0 = z2 := ⟨_, rfl⟩
        rw [hz2] at a2
        have HZ2 : Hid (z2.data.toList = upB k n ks (0 + 1)) := Lib.hid (by
          rw [← hz2, ← hz1, ByteArray.data_append, ByteArray.data_append, Array.toList_append, Array.toList_append, HZ.out, HTL.out, show 0 + 1 = 1 from rfl, HUP0.out rfl])
        have hz2s : z2.size ≤ 20000 := by rw [Lib.size_eq, HZ2.out]; exact HUL.out
        clear hz1 hz2 hu0 HUP0 HUP1 HTL HUL hz1s HZ
        generalize hki : ks.k 0 = ki at *
        generalize hni : ks.n 0 = ni at *
        go_wp2_with fail
        refine (TX.out _ (by omega) HKI.out).mono ?_
        rintro e w5 ⟨rfl, hb5⟩
        have HB5 := Lib.hid (HBR.out.trans (hb5.mono hbz))
        clear hb5
        go_wp2_with fail
        go_roundw
        case rel => exact ⟨0 + 1, z2, rfl, by go_num, by omega, HZ2, hz2s, HB5⟩
        case measure => (first | (simp [intOf]; done) | (simp [intOf]; omega) | (simp only [intOf]; omega))
      · have hf : ((i : Int) == 0) = false := by rw [beq_eq_false_iff_ne]; omega
        have hf' : (i == 0) = false := by rw [beq_eq_false_iff_ne]; exact h0
        have a1 : ∀ wx : World, (Op.stringOp .add z ⟨#[44]⟩).run Tryz.prog wx = .ok (.string (z ++ ⟨#[44]⟩)) wx := fun wx => run_string_add_sum wx _ _ (by show _ + 1 ≤ _; omega)
        obtain ⟨z1, hz1⟩ : ∃ z1, z ++ (⟨#[44]⟩ : ByteArray) = z1 := ⟨_, rfl⟩
        rw [hz1] at a1
        have hz1s : z1.size = z.size + 1 := by rw [← hz1, ByteArray.size_append]; rfl
        have a2 : ∀ wx : World, (Op.stringOp .add z1 u0).run Tryz.prog wx = .ok (.string (z1 ++ u0)) wx := fun wx => run_string_add_sum wx _ _ (by omega)
        obtain ⟨z2, hz2⟩ : ∃ z2, z1 ++ u0 = z2 := ⟨_, rfl⟩
        rw [hz2] at a2
        have HZ2 : Hid (z2.data.toList = upB k n ks (i + 1)) := Lib.hid (by
          rw [← hz2, ← hz1, ByteArray.data_append, ByteArray.data_append, Array.toList_append, Array.toList_append, HZ.out, HTL.out, HUP1.out h0])
        have hz2s : z2.size ≤ 20000 := by rw [Lib.size_eq, HZ2.out]; exact HUL.out
        clear hz1 hz2 hu0 HUP0 HUP1 HTL HUL hz1s HZ
        generalize hki : ks.k i = ki at *
        generalize hni : ks.n i = ni at *
        go_wp2_with fail
        refine (TX.out _ (by omega) HKI.out).mono ?_
        rintro e w5 ⟨rfl, hb5⟩
        have HB5 := Lib.hid (HBR.out.trans (hb5.mono hbz))
        clear hb5
        go_wp2_with fail
        go_roundw
        case rel => exact ⟨i + 1, z2, rfl, by go_num, by omega, HZ2, hz2s, HB5⟩
        case measure => (first | (simp [intOf]; done) | (simp [intOf]; omega) | (simp only [intOf]; omega))
    · obtain rfl : i = m := by omega
      have d1 : decide ((i : Int) < (i : Int)) = false := decide_eq_false (by omega)
      have HI0 := Lib.hid HM.out
      by_cases h0 : i = 0
      · have HE := Lib.hid (upB_none (k := k) (n := n) (show ks.len = 0 by have := HM.out; omega))
        have HR : Hid (z = txS k n ks) := Lib.hid (ba_ext (by rw [HZ.out, HI0.out, HE.out, txS_list]))
        subst h0
        clear HE HZ HM
        go_wp2_with fail
        go_ret
        exact ⟨by rw [HR.out]; rfl, by rw [hX]; exact HBW.out.trans (HBR.out.mono (by rw [← hX]; exact HBW.out.size))⟩
      · have HE := Lib.hid (upB_all (k := k) (n := n) (show ks.len ≠ 0 by have := HM.out; omega))
        have d2 : decide ((i : Int) > 0) = true := decide_eq_true (by omega)
        have d2' : decide (0 < i) = true := decide_eq_true (by omega)
        have a1 : ∀ wx : World, (Op.stringOp .add z ⟨#[41]⟩).run Tryz.prog wx = .ok (.string (z ++ ⟨#[41]⟩)) wx := fun wx => run_string_add_sum wx _ _ (by show _ + 1 ≤ _; omega)
        obtain ⟨z1, hz1⟩ : ∃ z1, z ++ (⟨#[41]⟩ : ByteArray) = z1 := ⟨_, rfl⟩
        rw [hz1] at a1
        have HR : Hid (z1 = txS k n ks) := Lib.hid (ba_ext (by rw [← hz1, ByteArray.data_append, Array.toList_append, HZ.out, HI0.out, txS_list, ← HE.out]))
        clear HE HZ HM hz1
        go_wp2_with fail
        go_ret
        exact ⟨by rw [HR.out]; rfl, by rw [hX]; exact HBW.out.trans (HBR.out.mono (by rw [← hX]; exact HBW.out.size))⟩
end Go.Proofs.YtakhgjhnljbfiaaGreatDoor
