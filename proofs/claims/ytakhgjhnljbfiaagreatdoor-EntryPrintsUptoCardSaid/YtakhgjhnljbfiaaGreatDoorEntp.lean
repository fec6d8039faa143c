/- entry.Print: an entry's line. -/
import Derived.Test.YtakhgjhnljbfiaaGreatDoorEnta
namespace Go.Proofs.YtakhgjhnljbfiaaGreatDoor
open Go.ChangeShapes Go.WideShapes Go.ChangeAt Go.RowKit
set_option linter.unusedVariables false
set_option linter.unusedSimpArgs false
theorem node_okT1 {k n : Int} {m : Nat} {a b : Int} (h : nodeB k n m a b = true) : okT1 k n := by
  have hH : hasb n = true → 0 ≤ n ∧ n ≤ 999999999 := fun h => by
    have := of_decide_eq_true h; omega
  have hF : few n = true → 0 ≤ n ∧ n ≤ 999999999 := fun h => by
    have := of_decide_eq_true h; omega
  have hP : hasp n = true → 0 ≤ n ∧ n ≤ 999999999 := fun h => by
    unfold hasp pwb at h
    rw [Bool.and_eq_true] at h
    have h1 := of_decide_eq_true h.1
    have h2 := of_decide_eq_true h.2
    omega
  unfold nodeB at h
  by_cases k1 : k = 1
  · rw [if_pos k1, Bool.and_eq_true] at h; exact ⟨by omega, hH h.2⟩
  rw [if_neg k1] at h
  by_cases k2 : k = 2
  · rw [if_pos k2, Bool.and_eq_true] at h; exact ⟨by omega, hF h.2⟩
  rw [if_neg k2] at h
  by_cases k3 : k = 3
  · rw [if_pos k3, Bool.and_eq_true] at h; exact ⟨by omega, hP h.2⟩
  rw [if_neg k3] at h
  by_cases k4 : k = 4
  · rw [if_pos k4, Bool.and_eq_true, Bool.and_eq_true] at h; exact ⟨by omega, hH h.1.2⟩
  rw [if_neg k4] at h
  by_cases k5 : k = 5
  · rw [if_pos k5, Bool.and_eq_true, Bool.and_eq_true, Bool.and_eq_true] at h; exact ⟨by omega, hH h.1.1.2⟩
  rw [if_neg k5] at h
  by_cases k6 : k = 6
  · rw [if_pos k6, Bool.and_eq_true, Bool.and_eq_true, Bool.and_eq_true, Bool.and_eq_true] at h; exact ⟨by omega, hH h.1.1.2⟩
  rw [if_neg k6] at h
  by_cases k7 : k = 7
  · rw [if_pos k7, Bool.and_eq_true, Bool.and_eq_true, Bool.and_eq_true, Bool.and_eq_true] at h; exact ⟨by omega, hH h.1.1.2⟩
  rw [if_neg k7] at h
  cases h
theorem chk_okT {k n : Int} {ks : Fo} (h : chkd k n ks = 0) : ¬ bigT ks ∧ (Fo.cons k n ks .nil).okT := by
  unfold chkd at h
  by_cases hb : 60 < ks.cnt + 1 ∨ 12 < ks.depth + 1
  · rw [if_pos hb] at h; cases h
  · rw [if_neg hb] at h
    refine ⟨hb, (okT_list k n ks).2 (fun x hx => ?_)⟩
    by_cases ha : (Nd.mk k n ks :: ks.pre).all Nd.ok = true
    · exact node_okT1 (List.all_eq_true.1 ha x hx)
    · rw [if_neg ha] at h; cases h
theorem fori_zero {a b n e : Int} (h : fori a b n e = 0) : (1 ≤ a ∧ a ≤ 16777216) ∧ (b = 0 ∨ b = 1) ∧ e = 0 ∧ n = a := by
  unfold fori at h
  by_cases h1 : hasb a = false
  · rw [if_pos h1] at h; cases h
  rw [if_neg h1] at h
  by_cases h2 : ¬ (b = 0 ∨ b = 1)
  · rw [if_pos h2] at h; cases h
  rw [if_neg h2] at h
  by_cases h3 : e ≠ 0
  · rw [if_pos h3] at h; exact absurd h h3
  rw [if_neg h3] at h
  by_cases h4 : n ≠ a
  · rw [if_pos h4] at h; cases h
  have h5 := of_decide_eq_true (show hasb a = true by simpa using h1)
  exact ⟨⟨h5.1, h5.2.1⟩, Classical.not_not.1 h2, Classical.not_not.1 h3, Classical.not_not.1 h4⟩
/-- An entry's line. -/
def lnB (a b k n : Int) (ks : Fo) : List UInt8 := Lib.decDigits a.toNat ++ (32 :: (Lib.decDigits b.toNat ++ (32 :: ndB k n ks)))
def EPrOk (a b k n : Int) (ks : Fo) (W : World) (e : Ending) (w' : World) : Prop := Below W.heap.size W w' ∧
  ((fori a b n (chkd k n ks) ≠ 0 ∧ e = .returned (.tuple #[.string ⟨#[]⟩, .int .i64 (fori a b n (chkd k n ks))])) ∨
    (fori a b n (chkd k n ks) = 0 ∧ ∃ s : ByteArray, s.data.toList = lnB a b k n ks ∧ e = .returned (.tuple #[.string s, .int .i64 0])))
theorem row3i (w : World) (x y z : Int) (T : TypeId) (hx : (Lit.int .i64 x).wf = true) (hy : (Lit.int .i64 y).wf = true) (hz : (Lit.int .i64 z).wf = true) : RowI (w.alloc (.cells #[.int .i64 x, .int .i64 y, .int .i64 z] T)) (some ⟨w.heap.size, 0, none⟩) 3 [x, y, z] :=
  RowI.of_at (T := T) (by unfold RowAtI; exact heap_alloc_new _ _) (by
    intro u hu
    simp only [List.mem_cons, List.not_mem_nil, or_false] at hu
    rcases hu with rfl | rfl | rfl <;> assumption) rfl (by decide)
set_option maxRecDepth 100000 in
set_option maxHeartbeats 8000000 in
theorem e_print (ks : Fo) (v : Value) (a b k n : Int) (lim : Nat) (W : World) (hN : ks.cnt ≤ 1048576) (hK : Kids W lim v ks) (hl : lim ≤ W.heap.size) (wa : -9223372036854775808 ≤ a ∧ a ≤ 9223372036854775807) (wk : -9223372036854775808 ≤ k ∧ k ≤ 9223372036854775807) (wn : -9223372036854775808 ≤ n ∧ n ≤ 9223372036854775807) (wf : ks.wf) (hT : Lib.TabIs Tryz.prog W "internal/strconv.uint64pow10" .u64 Lib.pow10Tab) :
    Calls Tryz.prog 9 #[.agg #[.int .i64 a, .int .i64 b, .int .i64 k, .int .i64 n, v]] W (EPrOk a b k n ks W) := by
  obtain ⟨p, m, c, rfl, hc1, hc2, -⟩ := hK.shape
  obtain ⟨w0, hw0, r0, hB0, hs0⟩ := box5 W a b k n (.slice p m c) 28
  have hK0 := hK.below hl hB0
  have CH := e_check ks (.slice p m c) a b k n lim w0 hN hK0 (by omega) wa wk wn wf
  have hT0 := pow10_below hT hB0
  obtain ⟨x0, x1, x2, x3, x4⟩ := cells5 r0
  have HW0 := Lib.hid hw0
  by_cases hf : fori a b n (chkd k n ks) = 0
  · rw [hf] at CH
    obtain ⟨⟨ha1, ha2⟩, hb01, hck, hna⟩ := fori_zero hf
    obtain ⟨hbg, hok⟩ := chk_okT hck
    have HF := Lib.hid hf
    have HBG := Lib.hid hbg
    have HOK := Lib.hid hok
    have HWF := Lib.hid wf
    clear hf hbg hok hw0 hck hna hT hK
    go_enter Tryz.func9, Tryz.ntmps9
    go_wp2_with fail
    rw [← HW0.out]
    refine CH.mono ?_
    rintro e w1 ⟨rfl, hb1⟩
    have hz1 := hb1.size
    have hT1 := pow10_below hT0 hb1
    have hK1 := hK0.below (by omega) hb1
    have r1 := (hb1.block _ (by omega)).trans r0
    have HB1 := Lib.hid (hB0.trans (hb1.mono hB0.size))
    have D1 := lex_digits a wa w1 hT1
    clear x0 x1 x2 x3 x4 CH hb1 hT0 hK0 r0 HW0 hB0
    obtain ⟨x0, x1, x2, x3, x4⟩ := cells5 r1
    go_wp2_with fail
    refine D1.mono ?_
    rintro e w2 ⟨hb2, hcase⟩
    rcases hcase with ⟨h, -⟩ | ⟨q1, hq1, hq19, t1, ht1, rfl⟩
    · exfalso; omega
    have hz2 := hb2.size
    have hT2 := pow10_below hT1 hb2
    have hK2 := hK1.below (by omega) hb2
    have r2 := (hb2.block _ (by omega)).trans r1
    have HB2 := Lib.hid (HB1.out.trans (hb2.mono HB1.out.size))
    have D2 := lex_digits b (by omega) w2 hT2
    have HT1 := Lib.hid (show t1.data.toList = Lib.decDigits a.toNat by rw [ht1, hq1]; rfl)
    clear x0 x1 x2 x3 x4 D1 hb2 hT1 hK1 r1 HB1 ht1 hq1
    obtain ⟨x0, x1, x2, x3, x4⟩ := cells5 r2
    go_wp2_with fail
    refine D2.mono ?_
    rintro e w3 ⟨hb3, hcase⟩
    rcases hcase with ⟨h, -⟩ | ⟨q2, hq2, hq29, t2, ht2, rfl⟩
    · exfalso; omega
    have hz3 := hb3.size
    have hT3 := pow10_below hT2 hb3
    have hK3 := hK2.below (by omega) hb3
    have r3 := (hb3.block _ (by omega)).trans r2
    have HB3 := Lib.hid (HB2.out.trans (hb3.mono HB2.out.size))
    have D3 := d_print ks (.slice p m c) k n lim w3 hK3 (by omega) HWF.out wn hT3
    have HT2 := Lib.hid (show t2.data.toList = Lib.decDigits b.toNat by rw [ht2, hq2]; rfl)
    clear x0 x1 x2 x3 x4 D2 hb3 hT2 hK2 r2 HB2 ht2 hq2 hT3 hK3
    obtain ⟨x0, x1, x2, x3, x4⟩ := cells5 r3
    go_wp2_with fail
    refine D3.mono ?_
    rintro e w4 ⟨hb4, hcase⟩
    rcases hcase with ⟨h, -⟩ | ⟨-, h, -⟩ | ⟨-, -, t3, ht3, rfl⟩
    · exact absurd h HBG.out
    · exact absurd HOK.out h
    have hz4 := hb4.size
    have HB4 := Lib.hid (HB3.out.trans (hb4.mono HB3.out.size))
    have HT3 := Lib.hid ht3
    have OR := c_or_e _ 3 3 [0, 0, 0] _ (row3i w4 0 0 0 32 (by decide) (by decide) (by decide))
    rw [show fz [0, 0, 0] = 0 from rfl] at OR
    have hle : (Lib.join ([t1, t2, t3].map (·.data.toList)) [32]).length ≤ 140737488355328 := by
      have e1 : (Lib.decDigits a.toNat).length ≤ 9 := (dec_len (by omega)).2
      have e2 : (Lib.decDigits b.toNat).length ≤ 9 := (dec_len (by omega)).2
      have e3 := txB_le _ HOK.out
      have e4 : (Fo.cons k n ks .nil).cnt = ks.cnt + 0 + 1 := rfl
      have e5 : (ndB k n ks).length = (txB (.cons k n ks .nil)).length := rfl
      have e6 : Lib.join ([t1, t2, t3].map (·.data.toList)) [32] = lnB a b k n ks := by
        simp [Lib.join, HT1.out, HT2.out, HT3.out, lnB]
      rw [e6, lnB]
      simp only [List.length_append, List.length_cons]
      omega
    have HE : Hid (Lib.join ([t1, t2, t3].map (·.data.toList)) [32] = lnB a b k n ks) := Lib.hid (by simp [Lib.join, HT1.out, HT2.out, HT3.out, lnB])
    have HLE := Lib.hid hle
    clear x0 x1 x2 x3 x4 D3 hb4 r3 HB3 ht3 hle
    go_wp2_with fail
    refine OR.mono ?_
    rintro e w5' ⟨rfl, rfl⟩
    obtain ⟨w5, hw5, hb5, hs5⟩ : ∃ w5, w4.alloc (.cells #[.int .i64 0, .int .i64 0, .int .i64 0] 32) = w5 ∧ Below w4.heap.size w4 w5 ∧ w5.heap.size = w4.heap.size + 1 := ⟨_, rfl, (Below.refl _ _).alloc (Nat.le_refl _) _, by simp⟩
    obtain ⟨w6, hw6, hb6, hs6, hn6⟩ : ∃ w6, w5.alloc (.cells #[.string t1, .string t2, .string t3] 9) = w6 ∧ Below w5.heap.size w5 w6 ∧ w6.heap.size = w5.heap.size + 1 ∧ w6.heap[w5.heap.size]? = some (.cells #[.string t1, .string t2, .string t3] 9 (0, 0)) := ⟨_, rfl, (Below.refl _ _).alloc (Nat.le_refl _) _, by simp, heap_alloc_new _ _⟩
    have JN := c_strings_Join w5.heap.size 0 3 [t1, t2, t3] ⟨#[32]⟩ w6 (fun j x hj => by
      rw [Nat.zero_add, cell_of_row _ _ _ _ _ _ hn6]
      match j, hj with
      | 0, hj => simp at hj; subst hj; rfl
      | 1, hj => simp at hj; subst hj; rfl
      | 2, hj => simp at hj; subst hj; rfl) (by omega) (by simp) (by simp) HLE.out
    obtain ⟨ln, hln⟩ : ∃ ln : ByteArray, (⟨(Lib.join ([t1, t2, t3].map (·.data.toList)) (⟨#[32]⟩ : ByteArray).data.toList).toArray⟩ : ByteArray) = ln := ⟨_, rfl⟩
    have HLN : Hid (ln.data.toList = lnB a b k n ks) := Lib.hid (by rw [← hln]; exact HE.out)
    rw [hln] at JN
    have HB6 := Lib.hid ((HB4.out.trans (hb5.mono HB4.out.size)).trans (hb6.mono (by have := HB4.out.size; omega)))
    have HW5 := Lib.hid hw5
    have HW6 := Lib.hid hw6
    rw [hs5] at JN
    clear hw5 hw6 hn6 hln HLE HE OR hb5 hb6 hs6
    rw [HW5.out]
    go_wp2_with fail
    (try rw [HW6.out])
    refine JN.mono ?_
    rintro e w7 ⟨rfl, hb7⟩
    go_wp2_with fail
    go_ret2
    exact ⟨HB6.out.trans (hb7.mono HB6.out.size), .inr ⟨HF.out, ln, HLN.out, rfl⟩⟩
  · have HF := Lib.hid hf
    obtain ⟨z, hz⟩ : ∃ z, fori a b n (chkd k n ks) = z := ⟨_, rfl⟩
    have HZ := Lib.hid hz
    rw [hz] at CH hf
    have e0 : (z != 0) = true := by simp [bne, hf]
    clear hw0 hK hT hz hT0
    go_enter Tryz.func9, Tryz.ntmps9
    go_wp2_with fail
    rw [← HW0.out]
    refine CH.mono ?_
    rintro e w1 ⟨rfl, hb1⟩
    go_wp2_with fail
    go_ret2
    exact ⟨hB0.trans (hb1.mono hB0.size), .inl ⟨HF.out, by rw [HZ.out]; rfl⟩⟩
def baL (l : List UInt8) : ByteArray := ⟨l.toArray⟩
theorem baL_list (l : List UInt8) : (baL l).data.toList = l := by simp [baL]
open Classical in
noncomputable def tcode (p q r : List UInt8) : Int := if h : ∃ x : Int × Int × Fo, Tree (baL r) x.1 x.2.1 x.2.2 then fori ((vl (baL p) (baL p).size : Nat) : Int) ((vl (baL q) (baL q).size : Nat) : Int) h.choose.2.1 (chkd h.choose.1 h.choose.2.1 h.choose.2.2) else 10
open Classical in
/-- The error of a line. -/
noncomputable def ecode (s : ByteArray) : Int := match wds s.data.toList with
  | some [p, q, r] => if IsN (baL p) ∧ IsN (baL q) then (if prs (baL r) ≠ 0 then prs (baL r) else tcode p q r) else 10
  | _ => 10
theorem ec_words {s : ByteArray} (h : ∀ p q r, wds s.data.toList ≠ some [p, q, r]) : ecode s = 10 := by
  unfold ecode
  split
  · rename_i p q r hw; exact absurd hw (h p q r)
  · rfl
theorem ec_num {s : ByteArray} {p q r : List UInt8} (h : wds s.data.toList = some [p, q, r]) (hn : ¬ (IsN (baL p) ∧ IsN (baL q))) : ecode s = 10 := by
  unfold ecode; rw [h]; simp only []; rw [if_neg hn]
theorem ec_tree {s : ByteArray} {p q r : List UInt8} (h : wds s.data.toList = some [p, q, r]) (hp : IsN (baL p)) (hq : IsN (baL q)) (hr : prs (baL r) ≠ 0) : ecode s = prs (baL r) := by
  unfold ecode; rw [h]; simp only []; rw [if_pos ⟨hp, hq⟩, if_pos hr]
theorem ec_for {s : ByteArray} {p q r : List UInt8} {k m : Int} {ks : Fo} (h : wds s.data.toList = some [p, q, r]) (hp : IsN (baL p)) (hq : IsN (baL q)) (hr : prs (baL r) = 0) (ht : Tree (baL r) k m ks) :
    ecode s = fori ((vl (baL p) (baL p).size : Nat) : Int) ((vl (baL q) (baL q).size : Nat) : Int) m (chkd k m ks) := by
  unfold ecode; rw [h]; simp only []; rw [if_pos ⟨hp, hq⟩, if_neg (fun e => e hr)]
  have hx : ∃ x : Int × Int × Fo, Tree (baL r) x.1 x.2.1 x.2.2 := ⟨(k, m, ks), ht⟩
  unfold tcode
  rw [dif_pos hx]
  obtain ⟨e1, e2, e3⟩ := hx.choose_spec.uniq ht
  rw [e1, e2, e3]
/-- A line's entry. -/
structure Ent (s : ByteArray) (a b k m : Int) (ks : Fo) : Prop where
  w : ∃ p q r, wds s.data.toList = some [p, q, r] ∧ IsN (baL p) ∧ IsN (baL q) ∧ a = ((vl (baL p) (baL p).size : Nat) : Int) ∧ b = ((vl (baL q) (baL q).size : Nat) : Int) ∧ Tree (baL r) k m ks
  f : fori a b m (chkd k m ks) = 0
theorem Ent.uniq {s : ByteArray} {a b k m a' b' k' m' : Int} {ks ks' : Fo} (h : Ent s a b k m ks) (h' : Ent s a' b' k' m' ks') : a = a' ∧ b = b' ∧ k = k' ∧ m = m' ∧ ks = ks' := by
  obtain ⟨p, q, r, hw, -, -, ha, hb, ht⟩ := h.w
  obtain ⟨p', q', r', hw', -, -, ha', hb', ht'⟩ := h'.w
  rw [hw] at hw'
  simp only [Option.some.injEq, List.cons.injEq, and_true] at hw'
  obtain ⟨rfl, rfl, rfl⟩ := hw'
  obtain ⟨e1, e2, e3⟩ := ht.uniq ht'
  exact ⟨ha.trans ha'.symm, hb.trans hb'.symm, e1, e2, e3⟩
/-- The line is that entry's line. -/
theorem Ent.line {s : ByteArray} {a b k m : Int} {ks : Fo} (h : Ent s a b k m ks) : lnB a b k m ks = s.data.toList := by
  obtain ⟨p, q, r, hw, hp, hq, rfl, rfl, ht⟩ := h.w
  have h1 := isNL_dec ((isN_list _).1 hp)
  have h2 := isNL_dec ((isN_list _).1 hq)
  rw [← vl_all, baL_list] at h1 h2
  have h3 := ht.2
  rw [baL_list] at h3
  have hf := wds_full hw
  unfold lnB
  rw [Int.toNat_natCast, Int.toNat_natCast, h1.1, h2.1, show ndB k m ks = r from h3.symm, ← hf]
  simp [fullw, tlw]
/-- What the readers of a line tell. -/
def EPaOk (s : ByteArray) (W : World) (e : Ending) (w' : World) : Prop := Below W.heap.size W w' ∧
  ((ecode s ≠ 0 ∧ e = .returned (.tuple #[.agg #[.int .i64 0, .int .i64 0, .int .i64 0, .int .i64 0, .slice none 0 0], .int .i64 (ecode s)])) ∨
    (ecode s = 0 ∧ ∃ (a b k m : Int) (ks : Fo) (v : Value), Ent s a b k m ks ∧ Kids w' w'.heap.size v ks ∧ e = .returned (.tuple #[.agg #[.int .i64 a, .int .i64 b, .int .i64 k, .int .i64 m, v], .int .i64 0])))
theorem epa_bad {s : ByteArray} {W w : World} {b : Nat} {c : Int} (hB : Below W.heap.size W w) (hb : W.heap.size ≤ b) (hc : ecode s = c) (h0 : c ≠ 0) : EPaOk s W (.returned (.tuple #[.agg #[.int .i64 0, .int .i64 0, .int .i64 0, .int .i64 0, .slice none 0 0], .int .i64 c])) (s5 w b (.int .i64 0) (.int .i64 0) (.int .i64 0) (.int .i64 0) (.slice none 0 0)) := by
  subst hc
  exact ⟨hB.trans (s5_below _ _ _ _ _ hb), .inl ⟨h0, rfl⟩⟩
theorem epa_good {s : ByteArray} {W w : World} {g : Nat} {a b k m : Int} {ks : Fo} {v : Value} (hB : Below W.heap.size W w) (hb : W.heap.size ≤ g) (hc : ecode s = 0) (he : Ent s a b k m ks) (hk : KidsS w (fun x => x < w.heap.size ∧ x ≠ g) v ks) :
    EPaOk s W (.returned (.tuple #[.agg #[.int .i64 a, .int .i64 b, .int .i64 k, .int .i64 m, v], .int .i64 0])) (s5 w g (.int .i64 a) (.int .i64 b) (.int .i64 k) (.int .i64 m) v) := by
  refine ⟨hB.trans (s5_below _ _ _ _ _ hb), .inr ⟨hc, a, b, k, m, ks, v, he, ?_, rfl⟩⟩
  exact (hk.carry (w' := s5 w g (.int .i64 a) (.int .i64 b) (.int .i64 k) (.int .i64 m) v) (S' := fun x => x < w.heap.size) (fun x hx => ⟨hx.1, s5_other _ _ _ _ _ hx.2⟩)).to (fun x hx => by rw [s5_size]; exact hx)
theorem Kids.toS {w : World} {lim : Nat} {v : Value} {f : Fo} (h : Kids w lim v f) : KidsS w (fun b => b < lim) v f := KidsS.of h
theorem vl_bd {s : ByteArray} (h : IsN s) : vl s s.size ≤ 999999999 := by
  have := (isNL_dec ((isN_list _).1 h)).2
  rw [← vl_all] at this; exact this
end Go.Proofs.YtakhgjhnljbfiaaGreatDoor
