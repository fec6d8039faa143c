/- Put together by program (merge2.py): Rtq Rtn Cmpt. -/
import Derived.Test.YtafmiilkdhdngaaGreatDoorR2
import Derived.Test.YtafmiilkdhdngaaGreatDoorR17
/- Reference 23's Check and Text. -/
namespace Go.Proofs.YtafmiilkdhdngaaGreatDoor
open Go.ChangeShapes Go.WideShapes Go.ChangeAt Go.RowKit
set_option linter.unusedVariables false
set_option linter.unusedSimpArgs false
attribute [local go_sem ↓] Go.wp_at_zero Go.wp_at_succ
theorem okT_pre : ∀ f : Fo, f.okT ↔ ∀ x ∈ f.pre, okT1 x.k x.n
  | .nil => by simp [Fo.okT, Fo.pre]
  | .cons k n ks r => by
    have h1 := okT_pre ks
    have h2 := okT_pre r
    constructor
    · rintro ⟨a, b, c⟩ x hx
      simp only [Fo.pre, List.mem_cons, List.mem_append] at hx
      rcases hx with rfl | hx | hx
      · exact a
      · exact h1.1 b x hx
      · exact h2.1 c x hx
    · intro h
      refine ⟨h ⟨k, n, ks⟩ (by simp [Fo.pre]), h1.2 (fun x hx => h x (by simp [Fo.pre, hx])), h2.2 (fun x hx => h x (by simp [Fo.pre, hx]))⟩
theorem okT_list (k n : Int) (ks : Fo) : (Fo.cons k n ks .nil).okT ↔ ∀ x ∈ (Nd.mk k n ks :: ks.pre), okT1 x.k x.n := by
  rw [okT_pre]; simp [Fo.pre]
/-- A tree's text as a text. -/
def txS (k n : Int) (ks : Fo) : ByteArray := ⟨(ndB k n ks).toArray⟩
theorem txS_list (k n : Int) (ks : Fo) : (txS k n ks).data.toList = ndB k n ks := by simp [txS]
theorem txS_size (k n : Int) (ks : Fo) : (txS k n ks).size = (ndB k n ks).length := by rw [Lib.size_eq, txS_list]
theorem upB_len {k n : Int} {ks : Fo} {i : Nat} (h : (Fo.cons k n ks .nil).okT) (hi : i ≤ ks.len) (hc : ks.cnt ≤ 1000) : (upB k n ks i).length ≤ 20000 := by
  have h1 := hdB_le h.1
  have h2 := pt_le ks i (fun j _ hj => okT_at h.2.1 hj) hi
  unfold upB; rw [List.length_append]
  by_cases h0 : i = 0
  · rw [if_pos h0]; simp; omega
  · rw [if_neg h0]; simp; omega
set_option maxRecDepth 100000 in
set_option maxHeartbeats 8000000 in
theorem r23_text (N : Nat) : ∀ (ks : Fo) (v : Value) (k n : Int) (lim : Nat) (W : World), ks.cnt ≤ N → N ≤ 1000 → Kids W lim v ks → lim ≤ W.heap.size → (Fo.cons k n ks .nil).okT →
    Calls Tryz.prog 50 #[.agg #[.int .i64 k, .int .i64 n, v]] W fun e w' => e = .returned (.string (txS k n ks)) ∧ Below W.heap.size W w' := by
  induction N using Nat.strongRecOn with
  | _ N ih =>
  intro ks v k n lim W hN hN2 hK hl hok
  obtain ⟨p, m, c, rfl, hc1, hc2, HM⟩ := hK.shape
  obtain ⟨w0, hw0, c0, c1, c2, hB0, hs0⟩ := box3 W k n (.slice p m c) 42
  obtain ⟨q, hq⟩ : ∃ q : Nat, n = q := ⟨n.toNat, by have := hok.1.2; omega⟩
  have hq9 : q ≤ 999999999 := by have := hok.1.2; omega
  have hk7 := hok.1.1
  obtain ⟨x, hx⟩ : ∃ x, wrd k = x := ⟨_, rfl⟩
  obtain ⟨t, ht⟩ : ∃ t : ByteArray, (⟨(Lib.decDigits q).toArray⟩ : ByteArray) = t := ⟨_, rfl⟩
  have hxz : x.size ≤ 5 := by rw [← hx]; exact wrd_size k
  have htz : t.size ≤ 9 := by
    have := (dec_len hq9).2
    rw [Lib.size_eq, ← ht]; simpa using this
  have HHD : Hid ((x ++ t).data.toList = upB k n ks 0) := Lib.hid (by
    rw [ByteArray.data_append, Array.toList_append, upB_zero, hdB, hx, ← ht, hq]; rfl)
  have WD := Lib.hid (fun w => (by have := d_word23 k (by omega) w; rw [hx] at this; exact this : Calls Tryz.prog 74 #[.int .i64 k] w fun e w' => e = .returned (.string x) ∧ Below w.heap.size w w'))
  have DG := Lib.hid (fun w => ((ref_digits q hq9 w).mono (fun e w' h => by
    obtain ⟨h1, s, h2, h3⟩ := h
    have : s = t := by rw [← ht]; exact ba_ext (by simpa using h2)
    rw [this] at h3
    exact ⟨h3, h1⟩) : Calls Tryz.prog 49 #[.int .i64 q] w fun e w' => e = .returned (.string t) ∧ w = w'))
  have hadd : ∀ wx : World, (Op.stringOp .add x t).run Tryz.prog wx = .ok (.string (x ++ t)) wx := fun wx => run_string_add_sum wx _ _ (by omega)
  have hsz0 : (x ++ t).size ≤ 20000 := by rw [ByteArray.size_append]; omega
  obtain ⟨s0, hs0'⟩ : ∃ s0, x ++ t = s0 := ⟨_, rfl⟩
  rw [hs0'] at hadd HHD hsz0
  have HW0 := Lib.hid hw0
  have lX : W.heap.size < w0.heap.size := by omega
  have MK := Lib.hid (fun w' (hb : Below w0.heap.size w0 w') => (show w'.cell? ⟨W.heap.size, 0, none⟩ = some (.int .i64 k) ∧ w'.cell? ⟨W.heap.size, 1, none⟩ = some (.int .i64 n) ∧ w'.cell? ⟨W.heap.size, 2, none⟩ = some (.slice p m c) ∧ Below w0.heap.size w0 w' from
    ⟨(hb.cell (p := ⟨W.heap.size, 0, none⟩) lX).trans c0, (hb.cell (p := ⟨W.heap.size, 1, none⟩) lX).trans c1, (hb.cell (p := ⟨W.heap.size, 2, none⟩) lX).trans c2, hb⟩))
  have KP := Lib.hid (fun (w1 w' : World) (hS : w1.cell? ⟨W.heap.size, 0, none⟩ = some (.int .i64 k) ∧ w1.cell? ⟨W.heap.size, 1, none⟩ = some (.int .i64 n) ∧ w1.cell? ⟨W.heap.size, 2, none⟩ = some (.slice p m c) ∧ Below w0.heap.size w0 w1) (hb : Below w1.heap.size w1 w') => MK.out w' (hS.2.2.2.trans (hb.mono hS.2.2.2.size)))
  have HK0 := Lib.hid (hK.below hl hB0)
  have HOK := Lib.hid hok
  have IH := Lib.hid ih
  rw [← hq] at DG
  clear hw0 hK ih hok hq ht hx hs0' hxz htz
  have HBW := Lib.hid hB0
  clear hB0
  go_enter Tryz.func50, Tryz.ntmps50
  go_wp2_with fail
  rw [← HW0.out]
  generalize hX : W.heap.size = X at *
  go_region_held3 (fun w' => w'.cell? ⟨X, 0, none⟩ = some (.int .i64 k) ∧ w'.cell? ⟨X, 1, none⟩ = some (.int .i64 n) ∧ w'.cell? ⟨X, 2, none⟩ = some (.slice p m c) ∧ Below w0.heap.size w0 w') (first | exact MK.out _ ((Below.refl _ _).drew) | assumption | (refine KP.out _ _ ?_ hb; first | assumption | exact MK.out _ ((Below.refl _ _).drew))) (first | (go_at_call 74; (with_reducible refine (WD.out _).mono ?_); rintro e w' ⟨rfl, hb⟩) | (go_at_call 49; (with_reducible refine (DG.out _).mono ?_); rintro e w' ⟨rfl, rfl⟩))
  rename_i hSS
  obtain ⟨y0, y1, y2, hBB⟩ := hSS
  rename_i wz _ _
  have hBZ := Lib.hid hBB
  clear hBB y0 y1 y2
  go_wp2_with fail
  go_loopw [3, 4] (fun s y wr => ∃ (i : Nat) (z : ByteArray), s = .string z ∧ y = .int .i64 i ∧ i ≤ m ∧ Hid (z.data.toList = upB k n ks i) ∧ z.size ≤ 20000 ∧ Hid (Below w0.heap.size w0 wr)) (fun _ y _ => m - (intOf y).toNat)
  case atStart => exact ⟨0, s0, rfl, rfl, Nat.zero_le _, HHD, hsz0, hBZ⟩
  case round =>
    obtain ⟨i, z, rfl, rfl, hi, HZ, hzs, HBR⟩ := hrel
    obtain ⟨c0, c1, c2, -⟩ := MK.out _ HBR.out
    by_cases hlt : i < m
    · have hil : i < ks.len := by have := HM.out; omega
      have hbz := HBR.out.size
      obtain ⟨b, o, u, rfl, hb, k0, k1, k2, hKi⟩ := (HK0.out.carry (HBR.out.mono (by omega))).get hlt
      obtain ⟨ua, un, uc, rfl, -, -, -⟩ := hKi.shape
      have d1 : decide ((i : Int) < (m : Int)) = true := decide_eq_true (by omega)
      have d1' : decide (i < m) = true := decide_eq_true hlt
      have oki := okT_at HOK.out.2.1 hil
      have hci := Fo.cnt_kids ks i hil
      have TX := Lib.hid (fun w (hw : lim ≤ w.heap.size) (hKw : Kids w lim (.slice ua un uc) (ks.kids i)) => IH.out (N - 1) (by omega) (ks.kids i) (.slice ua un uc) (ks.k i) (ks.n i) lim w (by omega) (by omega) hKw hw ⟨oki.1, oki.2, trivial⟩)
      have HKI := Lib.hid hKi
      have htl := txB_le (.cons (ks.k i) (ks.n i) (ks.kids i) .nil) ⟨oki.1, oki.2, trivial⟩
      have htz : (txS (ks.k i) (ks.n i) (ks.kids i)).size ≤ 20000 := by
        rw [txS_size]
        have e : (ndB (ks.k i) (ks.n i) (ks.kids i)).length = (txB (.cons (ks.k i) (ks.n i) (ks.kids i) .nil)).length := rfl
        rw [e]
        have e2 : (Fo.cons (ks.k i) (ks.n i) (ks.kids i) .nil).cnt = (ks.kids i).cnt + 0 + 1 := rfl
        omega
      have HUL := Lib.hid (upB_len HOK.out (i := i + 1) (by omega) (by omega))
      have HTL := Lib.hid (txS_list (ks.k i) (ks.n i) (ks.kids i))
      have HUP0 := Lib.hid (fun (h0 : i = 0) => upB_first (k := k) (n := n) (ks := ks) (by omega))
      have HUP1 := Lib.hid (fun (h0 : i ≠ 0) => upB_next (k := k) (n := n) h0 hil)
      clear oki hci htl hKi hil
      obtain ⟨u0, hu0⟩ : ∃ u0, txS (ks.k i) (ks.n i) (ks.kids i) = u0 := ⟨_, rfl⟩
      rw [hu0] at TX htz HTL
      by_cases h0 : i = 0
      · subst h0
        simp only [Nat.zero_mul, Nat.add_zero] at k0 k1 k2
        have hf : ((0 : Int) == 0) = true := rfl
        have a1 : ∀ wx : World, (Op.stringOp .add z ⟨#[40]⟩).run Tryz.prog wx = .ok (.string (z ++ ⟨#[40]⟩)) wx := fun wx => run_string_add_sum wx _ _ (by show _ + 1 ≤ _; omega)
        obtain ⟨z1, hz1⟩ : ∃ z1, z ++ (⟨#[40]⟩ : ByteArray) = z1 := ⟨_, rfl⟩
        rw [hz1] at a1
        have hz1s : z1.size = z.size + 1 := by rw [← hz1, ByteArray.size_append]; rfl
        have a2 : ∀ wx : World, (Op.stringOp .add z1 u0).run Tryz.prog wx = .ok (.string (z1 ++ u0)) wx := fun wx => run_string_add_sum wx _ _ (by omega)
        obtain ⟨z2, hz2⟩ : ∃ z2, z1 ++ u0 = z2 := ⟨_, rfl⟩
        rw [hz2] at a2
        have HZ2 : Hid (z2.data.toList = upB k n ks (0 + 1)) := Lib.hid (by
          rw [← hz2, ← hz1, ByteArray.data_append, ByteArray.data_append, Array.toList_append, Array.toList_append, HZ.out, HTL.out, show 0 + 1 = 1 from rfl, HUP0.out rfl])
        have hz2s : z2.size ≤ 20000 := by rw [Lib.size_eq, HZ2.out]; exact HUL.out
        clear hz1 hz2 hu0 HUP0 HUP1 HTL HUL hz1s HZ
        generalize hki : ks.k 0 = ki at *
        generalize hni : ks.n 0 = ni at *
        go_wp2_with fail
        refine (TX.out _ (by omega) HKI.out).mono ?_
        rintro e w5 ⟨rfl, hb5⟩
        have HB5 := Lib.hid (HBR.out.trans (hb5.mono hbz))
        clear hb5
        go_wp2_with fail
        go_roundw
        case rel => exact ⟨0 + 1, z2, rfl, by go_num, by omega, HZ2, hz2s, HB5⟩
        case measure => (first | (simp [intOf]; done) | (simp [intOf]; omega) | (simp only [intOf]; omega))
      · have hf : ((i : Int) == 0) = false := by rw [beq_eq_false_iff_ne]; omega
        have hf' : (i == 0) = false := by rw [beq_eq_false_iff_ne]; exact h0
        have a1 : ∀ wx : World, (Op.stringOp .add z ⟨#[44]⟩).run Tryz.prog wx = .ok (.string (z ++ ⟨#[44]⟩)) wx := fun wx => run_string_add_sum wx _ _ (by show _ + 1 ≤ _; omega)
        obtain ⟨z1, hz1⟩ : ∃ z1, z ++ (⟨#[44]⟩ : ByteArray) = z1 := ⟨_, rfl⟩
        rw [hz1] at a1
        have hz1s : z1.size = z.size + 1 := by rw [← hz1, ByteArray.size_append]; rfl
        have a2 : ∀ wx : World, (Op.stringOp .add z1 u0).run Tryz.prog wx = .ok (.string (z1 ++ u0)) wx := fun wx => run_string_add_sum wx _ _ (by omega)
        obtain ⟨z2, hz2⟩ : ∃ z2, z1 ++ u0 = z2 := ⟨_, rfl⟩
        rw [hz2] at a2
        have HZ2 : Hid (z2.data.toList = upB k n ks (i + 1)) := Lib.hid (by
          rw [← hz2, ← hz1, ByteArray.data_append, ByteArray.data_append, Array.toList_append, Array.toList_append, HZ.out, HTL.out, HUP1.out h0])
        have hz2s : z2.size ≤ 20000 := by rw [Lib.size_eq, HZ2.out]; exact HUL.out
        clear hz1 hz2 hu0 HUP0 HUP1 HTL HUL hz1s HZ
        generalize hki : ks.k i = ki at *
        generalize hni : ks.n i = ni at *
        go_wp2_with fail
        refine (TX.out _ (by omega) HKI.out).mono ?_
        rintro e w5 ⟨rfl, hb5⟩
        have HB5 := Lib.hid (HBR.out.trans (hb5.mono hbz))
        clear hb5
        go_wp2_with fail
        go_roundw
        case rel => exact ⟨i + 1, z2, rfl, by go_num, by omega, HZ2, hz2s, HB5⟩
        case measure => (first | (simp [intOf]; done) | (simp [intOf]; omega) | (simp only [intOf]; omega))
    · obtain rfl : i = m := by omega
      have d1 : decide ((i : Int) < (i : Int)) = false := decide_eq_false (by omega)
      have HI0 := Lib.hid HM.out
      by_cases h0 : i = 0
      · have HE := Lib.hid (upB_none (k := k) (n := n) (show ks.len = 0 by have := HM.out; omega))
        have HR : Hid (z = txS k n ks) := Lib.hid (ba_ext (by rw [HZ.out, HI0.out, HE.out, txS_list]))
        subst h0
        clear HE HZ HM
        go_wp2_with fail
        go_ret
        exact ⟨by rw [HR.out]; rfl, by rw [hX]; exact HBW.out.trans (HBR.out.mono (by rw [← hX]; exact HBW.out.size))⟩
      · have HE := Lib.hid (upB_all (k := k) (n := n) (show ks.len ≠ 0 by have := HM.out; omega))
        have d2 : decide ((i : Int) > 0) = true := decide_eq_true (by omega)
        have d2' : decide (0 < i) = true := decide_eq_true (by omega)
        have a1 : ∀ wx : World, (Op.stringOp .add z ⟨#[41]⟩).run Tryz.prog wx = .ok (.string (z ++ ⟨#[41]⟩)) wx := fun wx => run_string_add_sum wx _ _ (by show _ + 1 ≤ _; omega)
        obtain ⟨z1, hz1⟩ : ∃ z1, z ++ (⟨#[41]⟩ : ByteArray) = z1 := ⟨_, rfl⟩
        rw [hz1] at a1
        have HR : Hid (z1 = txS k n ks) := Lib.hid (ba_ext (by rw [← hz1, ByteArray.data_append, Array.toList_append, HZ.out, HI0.out, txS_list, ← HE.out]))
        clear HE HZ HM hz1
        go_wp2_with fail
        go_ret
        exact ⟨by rw [HR.out]; rfl, by rw [hX]; exact HBW.out.trans (HBR.out.mono (by rw [← hX]; exact HBW.out.size))⟩
end Go.Proofs.YtafmiilkdhdngaaGreatDoor
/- Reference 23's node: the numbers. -/
namespace Go.Proofs.YtafmiilkdhdngaaGreatDoor
open Go.ChangeShapes Go.WideShapes Go.ChangeAt Go.RowKit
set_option linter.unusedVariables false
set_option linter.unusedSimpArgs false
theorem pre_ext {s w : ByteArray} {i : Nat} (h : i + w.size ≤ s.size) : s.extract i (i + w.size) = w ↔ w.data.toList <+: s.data.toList.drop i := by
  have e : (s.extract i (i + w.size)).data.toList = (s.data.toList.drop i).take w.data.toList.length := by
    rw [Lib.extract_data, show i + w.size - i = w.size by omega, Lib.size_eq]
  constructor
  · intro he
    rw [he] at e
    exact List.prefix_iff_eq_take.2 e
  · intro hp
    exact ba_ext (e.trans (List.prefix_iff_eq_take.1 hp).symm)
theorem pre_long {s w : ByteArray} {i : Nat} (hi : i ≤ s.size) (h : ¬ i + w.size ≤ s.size) : ¬ w.data.toList <+: s.data.toList.drop i := fun hp => by
  have := hp.length_le
  rw [List.length_drop, ← Lib.size_eq, ← Lib.size_eq] at this
  omega
theorem cut_at (s : ByteArray) {a b : Nat} (h1 : a ≤ b) : s.data.toList.drop a = (s.extract a b).data.toList ++ s.data.toList.drop b := by
  rw [Lib.extract_data]
  conv => lhs; rw [← List.take_append_drop (b - a) (s.data.toList.drop a)]
  rw [List.drop_drop, show a + (b - a) = b by omega]
theorem bt_drop {s : ByteArray} {i : Nat} (h : i < s.size) : ∃ c y, s.data.toList.drop i = c :: y ∧ c.toNat = bt s i ∧ y = s.data.toList.drop (i + 1) := by
  have h1 := bt_list s i h
  have hl : i < s.data.toList.length := by rw [← Lib.size_eq]; exact h
  refine ⟨_, _, List.drop_eq_getElem_cons hl, ?_, rfl⟩
  rw [h1.2]
  have := h1.1
  rw [List.getElem?_eq_getElem hl] at this
  rw [Option.some.inj this]
theorem ext_dig {s : ByteArray} {a b : Nat} (hb : b ≤ s.size) (h : ∀ j, a ≤ j → j < b → 48 ≤ bt s j ∧ bt s j ≤ 57) : ∀ x ∈ (s.extract a b).data.toList, 48 ≤ x.toNat ∧ x.toNat ≤ 57 := fun x hx => by
  rw [Lib.extract_data] at hx
  obtain ⟨i, hi, e⟩ := List.getElem_of_mem hx
  rw [List.length_take, List.length_drop, ← Lib.size_eq] at hi
  rw [List.getElem_take, List.getElem_drop] at e
  have h1 := bt_list s (a + i) (by omega)
  have h2 := h1.1
  rw [List.getElem?_eq_getElem (by rw [← Lib.size_eq]; omega), e] at h2
  have := h (a + i) (by omega) (by omega)
  rw [h1.2, ← Option.some.inj h2] at this
  exact this
/-- A run of digits ends here. -/
def Ends (s : ByteArray) (b : Nat) : Prop := b = s.size ∨ (b < s.size ∧ ¬ (48 ≤ bt s b ∧ bt s b ≤ 57))
theorem Ends.out {s : ByteArray} {b : Nat} (h : Ends s b) : ∀ c y, s.data.toList.drop b = c :: y → ¬ (48 ≤ c.toNat ∧ c.toNat ≤ 57) := fun c y e => by
  rcases h with rfl | ⟨h1, h2⟩
  · rw [Lib.size_eq, List.drop_length] at e; cases e
  · obtain ⟨c', y', e', hc, -⟩ := bt_drop h1
    rw [e'] at e
    simp only [List.cons.injEq] at e
    rw [← e.1, hc]; exact h2
theorem head_yes {s : ByteArray} {K : Int} {i a b : Nat} (hK : 1 ≤ K ∧ K ≤ 7) (hp : (wrd K).data.toList <+: s.data.toList.drop i) (ha : a = i + (wrd K).size) (hab : a ≤ b) (he : Ends s b) (hn : IsN (s.extract a b)) :
    HB (s.data.toList.drop i) = some (K, ((vl (s.extract a b) (s.extract a b).size : Nat) : Int), s.data.toList.drop b) := by
  have h1 := isNL_dec ((isN_list _).1 hn)
  rw [← vl_all] at h1
  refine HB_yes ⟨⟨hK, by omega, by omega⟩, ?_, he.out⟩
  unfold hdB
  rw [Int.toNat_natCast, h1.1, List.append_assoc, ← cut_at s hab, ha, Lib.size_eq, ← List.drop_drop]
  obtain ⟨r, hr⟩ := hp
  rw [← hr, List.drop_left]
theorem head_word {s : ByteArray} {i : Nat} (h : ∀ k : Int, 1 ≤ k → k < 8 → ¬ (wrd k).data.toList <+: s.data.toList.drop i) : HB (s.data.toList.drop i) = none := HB_no (fun k n z hx => by
  refine h k hx.1.1.1 (by have := hx.1.1.2; omega) ⟨Lib.decDigits n.toNat ++ z, ?_⟩
  rw [hx.2.1, hdB, List.append_assoc])
theorem head_num {s : ByteArray} {K : Int} {i a b : Nat} (hK : 1 ≤ K ∧ K ≤ 7) (hp : (wrd K).data.toList <+: s.data.toList.drop i) (ha : a = i + (wrd K).size) (hab : a ≤ b) (hb : b ≤ s.size) (he : Ends s b) (hd : ∀ j, a ≤ j → j < b → 48 ≤ bt s j ∧ bt s j ≤ 57) (hn : ¬ IsN (s.extract a b)) :
    HB (s.data.toList.drop i) = none := HB_no (fun k n z hx => by
  obtain ⟨⟨hk, h0, h9⟩, e, hz⟩ := hx
  unfold hdB at e
  obtain rfl := wrd_front hK hk hp ⟨_, by rw [e, List.append_assoc]⟩
  have e2 : s.data.toList.drop a = (Lib.decDigits n.toNat) ++ z := by
    rw [ha, Lib.size_eq, ← List.drop_drop, e, List.append_assoc, List.drop_left]
  rw [cut_at s hab] at e2
  have := run_uniq e2 (ext_dig hb hd) (dec_dig _) he.out hz
  refine hn ((isN_list _).2 ?_)
  rw [this.1]
  exact (dec_isNL (by omega)).1)
def aftB (l : List Nd) : Option (Fo × List UInt8) → Option (Fo × List UInt8)
  | none => none
  | some (x, y) => some (mkF l x, y)
/-- What is still to be looked at behind some nodes. -/
noncomputable def rstB (l : List Nd) : List UInt8 → Option (Fo × List UInt8)
  | [] => some (mkF l .nil, [])
  | c :: y => if c = 44 then aftB l (SB y) else some (mkF l .nil, c :: y)
theorem aftB_nil (z : List UInt8) : SB z = aftB [] (SB z) := by rcases SB z with _ | ⟨x, y⟩ <;> rfl
theorem aftB_none {z : List UInt8} {l : List Nd} (h : NB z = none) : aftB l (SB z) = none := by
  rw [show SB z = none from Gr.S_none HB_less h]; rfl
theorem aftB_step {z y : List UInt8} {l : List Nd} {k m : Int} {ks : Fo} (h : NB z = some ((k, m, ks), y)) : aftB l (SB z) = rstB (l ++ [⟨k, m, ks⟩]) y := by
  cases y with
  | nil =>
    rw [show SB z = _ from Gr.S_end HB_less h (by simp)]
    show some (mkF l (.cons k m ks .nil), []) = some (mkF (l ++ [⟨k, m, ks⟩]) .nil, [])
    rw [mkF_snoc l ⟨k, m, ks⟩ .nil]
  | cons c y =>
    by_cases hc : c = 44
    · subst hc
      rw [show SB z = _ from Gr.S_more HB_less h]
      show aftB l _ = aftB (l ++ [⟨k, m, ks⟩]) (Gr.S HB 40 41 44 y)
      rcases Gr.S HB 40 41 44 y with _ | ⟨x, y'⟩
      · rfl
      · show some (mkF l (.cons k m ks x), y') = some (mkF (l ++ [⟨k, m, ks⟩]) x, y')
        rw [mkF_snoc l ⟨k, m, ks⟩ x]
    · rw [show SB z = _ from Gr.S_end HB_less h (fun y' e => hc (by simp only [List.cons.injEq] at e; exact e.1))]
      show some (mkF l (.cons k m ks .nil), c :: y) = if c = 44 then _ else some (mkF (l ++ [⟨k, m, ks⟩]) .nil, c :: y)
      rw [if_neg hc, mkF_snoc l ⟨k, m, ks⟩ .nil]
theorem u8_of {c : UInt8} {n : Nat} (h : n < 256) (e : c.toNat = n) : c = UInt8.ofNat n := UInt8.toNat_inj.1 (by rw [e, UInt8.toNat_ofNat']; omega)
/-- At a comma the next one is read. -/
theorem rst_comma {s : ByteArray} {t : Nat} {l : List Nd} (h : t < s.size) (hc : bt s t = 44) : rstB l (s.data.toList.drop t) = aftB l (SB (s.data.toList.drop (t + 1))) := by
  obtain ⟨c, y, e, e1, e2⟩ := bt_drop h
  rw [e, rstB, if_pos (show c = 44 from u8_of (by decide) (e1.trans hc)), e2]
theorem rst_end {s : ByteArray} {t : Nat} {l : List Nd} (h : t = s.size ∨ (t < s.size ∧ bt s t ≠ 44)) : rstB l (s.data.toList.drop t) = some (mkF l .nil, s.data.toList.drop t) := by
  rcases h with rfl | ⟨h, hc⟩
  · rw [Lib.size_eq, List.drop_length]; rfl
  · obtain ⟨c, y, e, e1, e2⟩ := bt_drop h
    rw [e, rstB, if_neg (fun e3 => hc (by rw [← e1, e3]; rfl))]
theorem nb_leaf {s : ByteArray} {i t : Nat} {k m : Int} (h : HB (s.data.toList.drop i) = some (k, m, s.data.toList.drop t)) (ht : t = s.size ∨ (t < s.size ∧ bt s t ≠ 40)) : NB (s.data.toList.drop i) = some ((k, m, .nil), s.data.toList.drop t) :=
  Gr.N_leaf h (fun y e => by
    rcases ht with rfl | ⟨h1, h2⟩
    · rw [Lib.size_eq, List.drop_length] at e; cases e
    · obtain ⟨c, y', e', e1, -⟩ := bt_drop h1
      rw [e'] at e
      simp only [List.cons.injEq] at e
      exact h2 (by rw [← e1, e.1]; rfl))
theorem nb_open {s : ByteArray} {i t : Nat} {k m : Int} (h : HB (s.data.toList.drop i) = some (k, m, s.data.toList.drop t)) (h1 : t < s.size) (h2 : bt s t = 40) : NB (s.data.toList.drop i) = (match SB (s.data.toList.drop (t + 1)) with | some (ks, c :: y) => if c = 41 then some ((k, m, ks), y) else none | _ => none) := by
  obtain ⟨c, y', e', e1, e2⟩ := bt_drop h1
  rw [e', (show c = 40 from u8_of (by decide) (e1.trans h2)), e2] at h
  have := Gr.N_open (op := 40) (cl := 41) (cm := 44) h
  rw [show NB (s.data.toList.drop i) = _ from this]
  show _ = (match Gr.S HB 40 41 44 (s.data.toList.drop (t + 1)) with | some (ks, c :: y) => if c = 41 then some ((k, m, ks), y) else none | _ => none)
  rcases Gr.S HB 40 41 44 (s.data.toList.drop (t + 1)) with _ | ⟨ks, _ | ⟨c, y⟩⟩ <;> rfl
theorem nb_close {s : ByteArray} {i t q : Nat} {k m : Int} {ks : Fo} (h : NB (s.data.toList.drop i) = (match SB (s.data.toList.drop (t + 1)) with | some (ks, c :: y) => if c = 41 then some ((k, m, ks), y) else none | _ => none)) (hs : SB (s.data.toList.drop (t + 1)) = some (ks, s.data.toList.drop q)) (h1 : q < s.size) (h2 : bt s q = 41) :
    NB (s.data.toList.drop i) = some ((k, m, ks), s.data.toList.drop (q + 1)) := by
  obtain ⟨c, y', e', e1, e2⟩ := bt_drop h1
  rw [h, hs, e', u8_of (by decide) (e1.trans h2), e2]; rfl
theorem nb_lost {s : ByteArray} {i t q : Nat} {k m : Int} {ks : Fo} (h : NB (s.data.toList.drop i) = (match SB (s.data.toList.drop (t + 1)) with | some (ks, c :: y) => if c = 41 then some ((k, m, ks), y) else none | _ => none)) (hs : SB (s.data.toList.drop (t + 1)) = some (ks, s.data.toList.drop q)) (h1 : q = s.size ∨ (q < s.size ∧ bt s q ≠ 41)) :
    NB (s.data.toList.drop i) = none := by
  rw [h, hs]
  rcases h1 with rfl | ⟨h1, h2⟩
  · rw [Lib.size_eq, List.drop_length]
  · obtain ⟨c, y', e', e1, e2⟩ := bt_drop h1
    rw [e']
    simp only []
    rw [if_neg (fun e => h2 (by rw [← e1, e]; rfl))]
theorem nb_none {s : ByteArray} {i t : Nat} {k m : Int} (h : NB (s.data.toList.drop i) = (match SB (s.data.toList.drop (t + 1)) with | some (ks, c :: y) => if c = 41 then some ((k, m, ks), y) else none | _ => none)) (hs : SB (s.data.toList.drop (t + 1)) = none) : NB (s.data.toList.drop i) = none := by rw [h, hs]
theorem OwnT.form' {w : World} {lim B : Nat} {v : Value} {l : List Nd} (h : OwnT w lim B v l) : ∃ a c, v = .slice a l.length c := by
  obtain ⟨xs, ⟨_, h1⟩, _⟩ := h
  rcases h1 with ⟨rfl, hn⟩ | ⟨g, cap, cur, rfl, _⟩
  · exact ⟨none, 0, by rw [hn]⟩
  · exact ⟨_, cap, rfl⟩
/-- What the reference's node tells. -/
def NbOk (s : ByteArray) (i : Nat) (W : World) (e : Ending) (w' : World) : Prop := Below W.heap.size W w' ∧
  ((NB (s.data.toList.drop i) = none ∧ ∃ (x y : Int) (za : Option Addr) (zn zc : Nat), e = .returned (.tuple #[.agg #[.int .i64 x, .int .i64 y, .slice za zn zc], .int .i64 (-1)])) ∨
    (∃ (k m : Int) (ks : Fo) (q : Nat) (v : Value), NB (s.data.toList.drop i) = some ((k, m, ks), s.data.toList.drop q) ∧ i < q ∧ q ≤ s.size ∧ e = .returned (.tuple #[.agg #[.int .i64 k, .int .i64 m, v], .int .i64 q]) ∧ KidsS w' (fun b => W.heap.size ≤ b ∧ b < w'.heap.size) v ks))
theorem nbok_fail {s : ByteArray} {i b : Nat} {W w : World} {x y : Int} {za : Option Addr} {zn zc : Nat} (hB : Below W.heap.size W w) (hb : W.heap.size ≤ b) (h : NB (s.data.toList.drop i) = none) : NbOk s i W (.returned (.tuple #[.agg #[.int .i64 x, .int .i64 y, .slice za zn zc], .int .i64 (-1)])) (s3 w b (.int .i64 x) (.int .i64 y) (.slice za zn zc)) :=
  ⟨hB.trans (s3_below _ _ _ hb), .inl ⟨h, x, y, za, zn, zc, rfl⟩⟩
theorem nbok_done {s : ByteArray} {i b q : Nat} {W w : World} {k m : Int} {v : Value} {ks : Fo} {S : Nat → Prop} (hB : Below W.heap.size W w) (hb : W.heap.size ≤ b) (h : NB (s.data.toList.drop i) = some ((k, m, ks), s.data.toList.drop q)) (h1 : i < q) (h2 : q ≤ s.size) (hk : KidsS w S v ks) (hS : ∀ x, S x → W.heap.size ≤ x ∧ x < w.heap.size ∧ x ≠ b) :
    NbOk s i W (.returned (.tuple #[.agg #[.int .i64 k, .int .i64 m, v], .int .i64 q])) (s3 w b (.int .i64 k) (.int .i64 m) v) :=
  ⟨hB.trans (s3_below _ _ _ hb), .inr ⟨k, m, ks, q, v, h, h1, h2, rfl, hk.carry (fun x hx => ⟨⟨(hS x hx).1, by rw [s3_size]; exact (hS x hx).2.1⟩, s3_other _ _ _ (hS x hx).2.2⟩)⟩⟩
end Go.Proofs.YtafmiilkdhdngaaGreatDoor
/- How two trees stand to each other, in numbers. -/
namespace Go.Proofs.YtafmiilkdhdngaaGreatDoor
open Go.ChangeShapes Go.WideShapes Go.ChangeAt Go.RowKit
set_option linter.unusedVariables false
def Fo.cmpF : Fo → Fo → Int
  | .cons k n ks r, .cons k' n' ks' r' => fz [cmp3 k k', cmp3 n n', cmp3 (ks.len : Int) (ks'.len : Int), ks.cmpF ks', r.cmpF r']
  | .nil, .nil => 0
  | .nil, .cons .. => -1
  | .cons .., .nil => 1
/-- How two nodes stand. -/
def cmpN (k n : Int) (ks : Fo) (k' n' : Int) (ks' : Fo) : Int := fz [cmp3 k k', cmp3 n n', cmp3 (ks.len : Int) (ks'.len : Int), ks.cmpF ks']
theorem fz_cons (x : Int) (l : List Int) : fz (x :: l) = if x = 0 then fz l else x := rfl
theorem fz_neg2 (x : Int) (l m : List Int) (h : fz m = - fz l) : fz (-x :: m) = - fz (x :: l) := by
  rw [fz_cons, fz_cons, h]
  by_cases hx : x = 0
  · rw [if_pos hx, if_pos (by omega)]
  · rw [if_neg hx, if_neg (by omega)]
theorem cmpF_neg : ∀ (a b : Fo), b.cmpF a = - a.cmpF b
  | .cons k n ks r, .cons k' n' ks' r' => by
    rw [Fo.cmpF, Fo.cmpF, cmp3_neg k k', cmp3_neg n n', cmp3_neg (ks.len : Int), cmpF_neg ks ks', cmpF_neg r r']
    exact fz_neg2 _ _ _ (fz_neg2 _ _ _ (fz_neg2 _ _ _ (fz_neg2 _ _ _ (fz_neg2 _ [] [] rfl))))
  | .nil, .nil => rfl
  | .nil, .cons .. => rfl
  | .cons .., .nil => rfl
theorem cmpN_neg (k n : Int) (ks : Fo) (k' n' : Int) (ks' : Fo) : cmpN k' n' ks' k n ks = - cmpN k n ks k' n' ks' := by
  unfold cmpN
  rw [cmp3_neg k k', cmp3_neg n n', cmp3_neg (ks.len : Int), cmpF_neg ks ks']
  exact fz_neg2 _ _ _ (fz_neg2 _ _ _ (fz_neg2 _ _ _ (fz_neg2 _ [] [] rfl)))
theorem cmpN_self (k n : Int) (ks : Fo) : cmpN k n ks k n ks = 0 := by have := cmpN_neg k n ks k n ks; omega
/-- The kids from the i-th on, of two rows of one length. -/
theorem cmpF_drop (a b : Fo) (i : Nat) (ha : i < a.len) (hb : i < b.len) : (a.drop i).cmpF (b.drop i) = if cmpN (a.k i) (a.n i) (a.kids i) (b.k i) (b.n i) (b.kids i) = 0 then (a.drop (i + 1)).cmpF (b.drop (i + 1)) else cmpN (a.k i) (a.n i) (a.kids i) (b.k i) (b.n i) (b.kids i) := by
  rw [Fo.drop_at a i ha, Fo.drop_at b i hb, Fo.cmpF]
  unfold cmpN
  simp only [fz_cons]
  generalize cmp3 (a.k i) (b.k i) = x1
  generalize cmp3 (a.n i) (b.n i) = x2
  generalize cmp3 ((a.kids i).len : Int) ((b.kids i).len : Int) = x3
  generalize (a.kids i).cmpF (b.kids i) = x4
  generalize (a.drop (i + 1)).cmpF (b.drop (i + 1)) = x5
  unfold fz
  by_cases h1 : x1 = 0 <;> by_cases h2 : x2 = 0 <;> by_cases h3 : x3 = 0 <;> by_cases h4 : x4 = 0 <;> by_cases h5 : x5 = 0 <;> simp [h1, h2, h3, h4, h5]
theorem cmpF_end (a b : Fo) (m : Nat) (ha : a.len = m) (hb : b.len = m) : (a.drop m).cmpF (b.drop m) = 0 := by
  have h1 : a.drop m = .nil := by rw [← ha]; exact Fo.drop_len a
  have h2 : b.drop m = .nil := by rw [← hb]; exact Fo.drop_len b
  rw [h1, h2]; rfl
end Go.Proofs.YtafmiilkdhdngaaGreatDoor
