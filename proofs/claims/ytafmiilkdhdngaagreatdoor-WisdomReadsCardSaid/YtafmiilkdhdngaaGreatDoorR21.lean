/- Put together by program (merge2.py): Rhs Entp Entl Shelc Lexid. -/
import Derived.Deep.DeepCutAuto
import Derived.Deep.CutBlock
import Derived.BigQuiet
import Derived.Shelf.Strings.Cut
import Derived.Shelf.Small.Wraps
import Derived.Test.YtafmiilkdhdngaaGreatDoorR11
import Derived.Test.YtafmiilkdhdngaaGreatDoorR12
import Derived.Test.YtafmiilkdhdngaaGreatDoorR20
/- References 25 and 26: Has, Get. -/
namespace Go.Proofs.YtafmiilkdhdngaaGreatDoor
open Go.ChangeShapes Go.WideShapes Go.ChangeAt Go.RowKit
set_option linter.unusedVariables false
set_option linter.unusedSimpArgs false
attribute [local go_sem ↓] Go.wp_at_zero Go.wp_at_succ
/-- Is a key among these? -/
def hasE (l : List En) (a b : Int) : Bool := l.any (fun (e : En) => decide (e.a = a ∧ e.b = b))
theorem hasE_at {l : List En} {a b : Int} {i : Nat} {e : En} (h : l[i]? = some e) (h1 : e.a = a ∧ e.b = b) : hasE l a b = true := by
  unfold hasE
  rw [List.any_eq_true]
  exact ⟨e, List.mem_of_getElem? h, decide_eq_true h1⟩
theorem hasE_not {l : List En} {a b : Int} (h : ∀ (j : Nat) (e : En), l[j]? = some e → ¬ (e.a = a ∧ e.b = b)) : hasE l a b = false := by
  unfold hasE
  rw [List.any_eq_false]
  intro e he
  obtain ⟨j, hj⟩ := List.mem_iff_getElem?.1 he
  simpa using h j e hj
theorem box2e (W : World) (a b : Int) (T : TypeId) : ∃ w0 : World, w0 = W.alloc (.cells #[.int .i64 a, .int .i64 b] T) ∧ w0.cell? ⟨W.heap.size, 0, none⟩ = some (.int .i64 a) ∧ w0.cell? ⟨W.heap.size, 1, none⟩ = some (.int .i64 b) ∧ Below W.heap.size W w0 ∧ w0.heap.size = W.heap.size + 1 := by
  have h1 := heap_alloc_new W (.cells #[.int .i64 a, .int .i64 b] T)
  exact ⟨_, rfl, by rw [cell_of_row _ _ _ _ _ _ h1]; rfl, by rw [cell_of_row _ _ _ _ _ _ h1]; rfl, (Below.refl _ _).alloc (Nat.le_refl _) _, by simp⟩
set_option maxRecDepth 100000 in
set_option maxHeartbeats 8000000 in
theorem r25_has (v : Value) (l : List En) (a b : Int) (lim : Nat) (W : World) (h : RowN W lim v l) (hlim : lim ≤ W.heap.size) (hn : l.length ≤ 100000) :
    Calls Tryz.prog 24 #[v, .agg #[.int .i64 a, .int .i64 b]] W fun e w' => e = .returned (.bool (hasE l a b)) ∧ Below W.heap.size W w' := by
  obtain ⟨p, c, rfl, hlc, hcm⟩ := h.form
  obtain ⟨n, hnl⟩ : ∃ n, l.length = n := ⟨_, rfl⟩
  rw [hnl] at h hlc hn ⊢
  obtain ⟨w0, hw0, x0, x1, hB0, hs0⟩ := box2e W a b 39
  have HIN := Lib.hid (h.below hlim hB0)
  have HNL := Lib.hid hnl
  have hcc : c ≤ 9223372036854775807 := by unfold maxLen at hcm; omega
  have lX : W.heap.size < w0.heap.size := by omega
  have KX := Lib.hid (fun w' (hb : Below w0.heap.size w0 w') => (show w'.cell? ⟨W.heap.size, 0, none⟩ = some (.int .i64 a) ∧ w'.cell? ⟨W.heap.size, 1, none⟩ = some (.int .i64 b) from
    ⟨(hb.cell (p := ⟨W.heap.size, 0, none⟩) lX).trans x0, (hb.cell (p := ⟨W.heap.size, 1, none⟩) lX).trans x1⟩))
  have HBW := Lib.hid (fun w' (hb : Below w0.heap.size w0 w') => hB0.trans (hb.mono hB0.size))
  have HW0 := Lib.hid hw0.symm
  have HS0 := Lib.hid hs0
  have hlm : lim ≤ w0.heap.size := by omega
  obtain ⟨X, hX⟩ : ∃ X, W.heap.size = X := ⟨_, rfl⟩
  rw [hX] at KX
  have HX := Lib.hid hX
  clear h hnl hcm hw0 hB0 hs0 lX x0 x1
  go_enter Tryz.func24, Tryz.ntmps24
  go_upto_region 1 with fail
  rw [HW0.out]
  clear hX
  go_wp2_with fail
  go_loopw [5] (fun j wr => ∃ i : Nat, j = .int .i64 i ∧ i ≤ n ∧ Hid (∀ (j : Nat) (e : En), j < i → l[j]? = some e → ¬ (e.a = a ∧ e.b = b)) ∧ Hid (Below w0.heap.size w0 wr)) (fun j _ => n - (intOf j).toNat)
  case atStart => exact ⟨0, rfl, by omega, Lib.hid (fun j e hj => by omega), Lib.hid (Below.refl _ _)⟩
  case round =>
    obtain ⟨i, rfl, hi, HC, HB⟩ := hrel
    by_cases hlt : i < n
    case neg =>
      obtain rfl : i = n := by omega
      have d1 : decide ((i : Int) < (i : Int)) = false := decide_eq_false (by omega)
      have E := Lib.hid (hasE_not (l := l) (a := a) (b := b) (fun j e hj => HC.out j e (by have := (List.getElem?_eq_some_iff.1 hj).1; have := HNL.out; omega) hj))
      go_wp2_with fail
      go_ret
      exact ⟨by rw [E.out]; rfl, HBW.out _ HB.out⟩
    case pos =>
      have d1 : decide ((i : Int) < (n : Int)) = true := decide_eq_true (by omega)
      have d1' : decide (i < n) = true := decide_eq_true hlt
      have hbz := HB.out.size
      obtain ⟨e, he⟩ : ∃ e, l[i]? = some e := ⟨l[i]'(by have := HNL.out; omega), List.getElem?_eq_getElem (by have := HNL.out; omega)⟩
      obtain ⟨gb, o, rfl, hb, s, y0, y1, y2, y3, y4, hK⟩ := (HIN.out.carry (HB.out.mono hlm)).get he
      have HE := Lib.hid he
      obtain ⟨x0, x1⟩ := KX.out wr HB.out
      obtain ⟨ea, eb, ek, em, eks⟩ := e
      simp only at y0 y1 y2 y3
      have lX : X < wr.heap.size := by have := HX.out; have := HS0.out; omega
      have MK := Lib.hid (fun w' (hb2 : Below wr.heap.size wr w') => (show w'.cell? ⟨gb, o + i * 5, none⟩ = some (.int .i64 ea) ∧ w'.cell? ⟨gb, o + i * 5 + 1, none⟩ = some (.int .i64 eb) ∧ w'.cell? ⟨X, 0, none⟩ = some (.int .i64 a) ∧ w'.cell? ⟨X, 1, none⟩ = some (.int .i64 b) ∧ Below wr.heap.size wr w' from
        ⟨(hb2.cell (p := ⟨gb, o + i * 5, none⟩) (show gb < _ by omega)).trans y0, (hb2.cell (p := ⟨gb, o + i * 5 + 1, none⟩) (show gb < _ by omega)).trans y1, (hb2.cell (p := ⟨X, 0, none⟩) lX).trans x0, (hb2.cell (p := ⟨X, 1, none⟩) lX).trans x1, hb2⟩))
      have hiI : (i : Int) < (n : Int) := by omega
      have hi0 : (0 : Int) ≤ (i : Int) := by omega
      have KE := key_eq ea eb a b
      by_cases hk : ea = a ∧ eb = b
      · rw [decide_eq_true hk] at KE
        have E := Lib.hid (hasE_at HE.out hk)
        clear he hK x0 x1 y0 y1 y2 y3 y4 hb hk
        go_wp2_with fail
        go_region_held3 (fun w' => w'.cell? ⟨gb, o + i * 5, none⟩ = some (.int .i64 ea) ∧ w'.cell? ⟨gb, o + i * 5 + 1, none⟩ = some (.int .i64 eb) ∧ w'.cell? ⟨X, 0, none⟩ = some (.int .i64 a) ∧ w'.cell? ⟨X, 1, none⟩ = some (.int .i64 b) ∧ Below wr.heap.size wr w') (first | exact MK.out _ ((Below.refl _ _).drew) | assumption) (fail)
        rename_i hEnd
        obtain ⟨-, -, -, -, hBB⟩ := hEnd
        have HB2 := Lib.hid (HB.out.trans (hBB.mono HB.out.size))
        clear hBB MK
        go_wp2_with fail
        go_ret
        exact ⟨by rw [E.out]; rfl, HBW.out _ HB2.out⟩
      · rw [decide_eq_false hk] at KE
        have HC2 := Lib.hid (show ∀ (j : Nat) (e : En), j < i + 1 → l[j]? = some e → ¬ (e.a = a ∧ e.b = b) from fun j e hj hje => by
          rcases Nat.lt_or_eq_of_le (Nat.le_of_lt_succ hj) with h | rfl
          · exact HC.out j e h hje
          · rw [HE.out] at hje; cases hje; exact hk)
        clear he hK x0 x1 y0 y1 y2 y3 y4 hb hk
        go_wp2_with fail
        go_region_held3 (fun w' => w'.cell? ⟨gb, o + i * 5, none⟩ = some (.int .i64 ea) ∧ w'.cell? ⟨gb, o + i * 5 + 1, none⟩ = some (.int .i64 eb) ∧ w'.cell? ⟨X, 0, none⟩ = some (.int .i64 a) ∧ w'.cell? ⟨X, 1, none⟩ = some (.int .i64 b) ∧ Below wr.heap.size wr w') (first | exact MK.out _ ((Below.refl _ _).drew) | assumption) (fail)
        rename_i hEnd
        obtain ⟨-, -, -, -, hBB⟩ := hEnd
        have HB2 := Lib.hid (HB.out.trans (hBB.mono HB.out.size))
        clear hBB MK
        go_wp2_with fail
        go_roundw
        case rel => exact ⟨i + 1, by go_num, by omega, HC2, HB2⟩
        case measure => simp only [intOf]; omega
end Go.Proofs.YtafmiilkdhdngaaGreatDoor
/- entry.Print: an entry's line. -/
namespace Go.Proofs.YtafmiilkdhdngaaGreatDoor
open Go.ChangeShapes Go.WideShapes Go.ChangeAt Go.RowKit
set_option linter.unusedVariables false
set_option linter.unusedSimpArgs false
theorem node_okT1 {k n : Int} {m : Nat} {a b : Int} (h : nodeB k n m a b = true) : okT1 k n := by
  have hH : hasb n = true → 0 ≤ n ∧ n ≤ 999999999 := fun h => by
    have := of_decide_eq_true h; omega
  have hF : few n = true → 0 ≤ n ∧ n ≤ 999999999 := fun h => by
    have := of_decide_eq_true h; omega
  have hP : hasp n = true → 0 ≤ n ∧ n ≤ 999999999 := fun h => by
    unfold hasp pwb at h
    rw [Bool.and_eq_true] at h
    have h1 := of_decide_eq_true h.1
    have h2 := of_decide_eq_true h.2
    omega
  unfold nodeB at h
  by_cases k1 : k = 1
  · rw [if_pos k1, Bool.and_eq_true] at h; exact ⟨by omega, hH h.2⟩
  rw [if_neg k1] at h
  by_cases k2 : k = 2
  · rw [if_pos k2, Bool.and_eq_true] at h; exact ⟨by omega, hF h.2⟩
  rw [if_neg k2] at h
  by_cases k3 : k = 3
  · rw [if_pos k3, Bool.and_eq_true] at h; exact ⟨by omega, hP h.2⟩
  rw [if_neg k3] at h
  by_cases k4 : k = 4
  · rw [if_pos k4, Bool.and_eq_true, Bool.and_eq_true] at h; exact ⟨by omega, hH h.1.2⟩
  rw [if_neg k4] at h
  by_cases k5 : k = 5
  · rw [if_pos k5, Bool.and_eq_true, Bool.and_eq_true, Bool.and_eq_true] at h; exact ⟨by omega, hH h.1.1.2⟩
  rw [if_neg k5] at h
  by_cases k6 : k = 6
  · rw [if_pos k6, Bool.and_eq_true, Bool.and_eq_true, Bool.and_eq_true, Bool.and_eq_true] at h; exact ⟨by omega, hH h.1.1.2⟩
  rw [if_neg k6] at h
  by_cases k7 : k = 7
  · rw [if_pos k7, Bool.and_eq_true, Bool.and_eq_true, Bool.and_eq_true, Bool.and_eq_true] at h; exact ⟨by omega, hH h.1.1.2⟩
  rw [if_neg k7] at h
  cases h
theorem chk_okT {k n : Int} {ks : Fo} (h : chkd k n ks = 0) : ¬ bigT ks ∧ (Fo.cons k n ks .nil).okT := by
  unfold chkd at h
  by_cases hb : 60 < ks.cnt + 1 ∨ 12 < ks.depth + 1
  · rw [if_pos hb] at h; cases h
  · rw [if_neg hb] at h
    refine ⟨hb, (okT_list k n ks).2 (fun x hx => ?_)⟩
    by_cases ha : (Nd.mk k n ks :: ks.pre).all Nd.ok = true
    · exact node_okT1 (List.all_eq_true.1 ha x hx)
    · rw [if_neg ha] at h; cases h
theorem fori_zero {a b n e : Int} (h : fori a b n e = 0) : (1 ≤ a ∧ a ≤ 16777216) ∧ (b = 0 ∨ b = 1) ∧ e = 0 ∧ n = a := by
  unfold fori at h
  by_cases h1 : hasb a = false
  · rw [if_pos h1] at h; cases h
  rw [if_neg h1] at h
  by_cases h2 : ¬ (b = 0 ∨ b = 1)
  · rw [if_pos h2] at h; cases h
  rw [if_neg h2] at h
  by_cases h3 : e ≠ 0
  · rw [if_pos h3] at h; exact absurd h h3
  rw [if_neg h3] at h
  by_cases h4 : n ≠ a
  · rw [if_pos h4] at h; cases h
  have h5 := of_decide_eq_true (show hasb a = true by simpa using h1)
  exact ⟨⟨h5.1, h5.2.1⟩, Classical.not_not.1 h2, Classical.not_not.1 h3, Classical.not_not.1 h4⟩
/-- An entry's line. -/
def lnB (a b k n : Int) (ks : Fo) : List UInt8 := Lib.decDigits a.toNat ++ (32 :: (Lib.decDigits b.toNat ++ (32 :: ndB k n ks)))
def EPrOk (a b k n : Int) (ks : Fo) (W : World) (e : Ending) (w' : World) : Prop := Below W.heap.size W w' ∧
  ((fori a b n (chkd k n ks) ≠ 0 ∧ e = .returned (.tuple #[.string ⟨#[]⟩, .int .i64 (fori a b n (chkd k n ks))])) ∨
    (fori a b n (chkd k n ks) = 0 ∧ ∃ s : ByteArray, s.data.toList = lnB a b k n ks ∧ e = .returned (.tuple #[.string s, .int .i64 0])))
theorem row3i (w : World) (x y z : Int) (T : TypeId) (hx : (Lit.int .i64 x).wf = true) (hy : (Lit.int .i64 y).wf = true) (hz : (Lit.int .i64 z).wf = true) : RowI (w.alloc (.cells #[.int .i64 x, .int .i64 y, .int .i64 z] T)) (some ⟨w.heap.size, 0, none⟩) 3 [x, y, z] :=
  RowI.of_at (T := T) (by unfold RowAtI; exact heap_alloc_new _ _) (by
    intro u hu
    simp only [List.mem_cons, List.not_mem_nil, or_false] at hu
    rcases hu with rfl | rfl | rfl <;> assumption) rfl (by decide)
set_option maxRecDepth 100000 in
set_option maxHeartbeats 8000000 in
theorem e_print (ks : Fo) (v : Value) (a b k n : Int) (lim : Nat) (W : World) (hN : ks.cnt ≤ 1048576) (hK : Kids W lim v ks) (hl : lim ≤ W.heap.size) (wa : -9223372036854775808 ≤ a ∧ a ≤ 9223372036854775807) (wk : -9223372036854775808 ≤ k ∧ k ≤ 9223372036854775807) (wn : -9223372036854775808 ≤ n ∧ n ≤ 9223372036854775807) (wf : ks.wf) (hT : Lib.TabIs Tryz.prog W "internal/strconv.uint64pow10" .u64 Lib.pow10Tab) :
    Calls Tryz.prog 20 #[.agg #[.int .i64 a, .int .i64 b, .int .i64 k, .int .i64 n, v]] W (EPrOk a b k n ks W) := by
  obtain ⟨p, m, c, rfl, hc1, hc2, -⟩ := hK.shape
  obtain ⟨w0, hw0, r0, hB0, hs0⟩ := box5 W a b k n (.slice p m c) 44
  have hK0 := hK.below hl hB0
  have CH := e_check ks (.slice p m c) a b k n lim w0 hN hK0 (by omega) wa wk wn wf
  have hT0 := pow10_below hT hB0
  obtain ⟨x0, x1, x2, x3, x4⟩ := cells5 r0
  have HW0 := Lib.hid hw0
  by_cases hf : fori a b n (chkd k n ks) = 0
  · rw [hf] at CH
    obtain ⟨⟨ha1, ha2⟩, hb01, hck, hna⟩ := fori_zero hf
    obtain ⟨hbg, hok⟩ := chk_okT hck
    have HF := Lib.hid hf
    have HBG := Lib.hid hbg
    have HOK := Lib.hid hok
    have HWF := Lib.hid wf
    clear hf hbg hok hw0 hck hna hT hK
    go_enter Tryz.func20, Tryz.ntmps20
    go_wp2_with fail
    rw [← HW0.out]
    refine CH.mono ?_
    rintro e w1 ⟨rfl, hb1⟩
    have hz1 := hb1.size
    have hT1 := pow10_below hT0 hb1
    have hK1 := hK0.below (by omega) hb1
    have r1 := (hb1.block _ (by omega)).trans r0
    have HB1 := Lib.hid (hB0.trans (hb1.mono hB0.size))
    have D1 := lex_digits a wa w1 hT1
    clear x0 x1 x2 x3 x4 CH hb1 hT0 hK0 r0 HW0 hB0
    obtain ⟨x0, x1, x2, x3, x4⟩ := cells5 r1
    go_wp2_with fail
    refine D1.mono ?_
    rintro e w2 ⟨hb2, hcase⟩
    rcases hcase with ⟨h, -⟩ | ⟨q1, hq1, hq19, t1, ht1, rfl⟩
    · exfalso; omega
    have hz2 := hb2.size
    have hT2 := pow10_below hT1 hb2
    have hK2 := hK1.below (by omega) hb2
    have r2 := (hb2.block _ (by omega)).trans r1
    have HB2 := Lib.hid (HB1.out.trans (hb2.mono HB1.out.size))
    have D2 := lex_digits b (by omega) w2 hT2
    have HT1 := Lib.hid (show t1.data.toList = Lib.decDigits a.toNat by rw [ht1, hq1]; rfl)
    clear x0 x1 x2 x3 x4 D1 hb2 hT1 hK1 r1 HB1 ht1 hq1
    obtain ⟨x0, x1, x2, x3, x4⟩ := cells5 r2
    go_wp2_with fail
    refine D2.mono ?_
    rintro e w3 ⟨hb3, hcase⟩
    rcases hcase with ⟨h, -⟩ | ⟨q2, hq2, hq29, t2, ht2, rfl⟩
    · exfalso; omega
    have hz3 := hb3.size
    have hT3 := pow10_below hT2 hb3
    have hK3 := hK2.below (by omega) hb3
    have r3 := (hb3.block _ (by omega)).trans r2
    have HB3 := Lib.hid (HB2.out.trans (hb3.mono HB2.out.size))
    have D3 := d_print ks (.slice p m c) k n lim w3 hK3 (by omega) HWF.out wn hT3
    have HT2 := Lib.hid (show t2.data.toList = Lib.decDigits b.toNat by rw [ht2, hq2]; rfl)
    clear x0 x1 x2 x3 x4 D2 hb3 hT2 hK2 r2 HB2 ht2 hq2 hT3 hK3
    obtain ⟨x0, x1, x2, x3, x4⟩ := cells5 r3
    go_wp2_with fail
    refine D3.mono ?_
    rintro e w4 ⟨hb4, hcase⟩
    rcases hcase with ⟨h, -⟩ | ⟨-, h, -⟩ | ⟨-, -, t3, ht3, rfl⟩
    · exact absurd h HBG.out
    · exact absurd HOK.out h
    have hz4 := hb4.size
    have HB4 := Lib.hid (HB3.out.trans (hb4.mono HB3.out.size))
    have HT3 := Lib.hid ht3
    have OR := c_or_e _ 3 3 [0, 0, 0] _ (row3i w4 0 0 0 25 (by decide) (by decide) (by decide))
    rw [show fz [0, 0, 0] = 0 from rfl] at OR
    have hle : (Lib.join ([t1, t2, t3].map (·.data.toList)) [32]).length ≤ 140737488355328 := by
      have e1 : (Lib.decDigits a.toNat).length ≤ 9 := (dec_len (by omega)).2
      have e2 : (Lib.decDigits b.toNat).length ≤ 9 := (dec_len (by omega)).2
      have e3 := txB_le _ HOK.out
      have e4 : (Fo.cons k n ks .nil).cnt = ks.cnt + 0 + 1 := rfl
      have e5 : (ndB k n ks).length = (txB (.cons k n ks .nil)).length := rfl
      have e6 : Lib.join ([t1, t2, t3].map (·.data.toList)) [32] = lnB a b k n ks := by
        simp [Lib.join, HT1.out, HT2.out, HT3.out, lnB]
      rw [e6, lnB]
      simp only [List.length_append, List.length_cons]
      omega
    have HE : Hid (Lib.join ([t1, t2, t3].map (·.data.toList)) [32] = lnB a b k n ks) := Lib.hid (by simp [Lib.join, HT1.out, HT2.out, HT3.out, lnB])
    have HLE := Lib.hid hle
    clear x0 x1 x2 x3 x4 D3 hb4 r3 HB3 ht3 hle
    go_wp2_with fail
    refine OR.mono ?_
    rintro e w5' ⟨rfl, rfl⟩
    obtain ⟨w5, hw5, hb5, hs5⟩ : ∃ w5, w4.alloc (.cells #[.int .i64 0, .int .i64 0, .int .i64 0] 25) = w5 ∧ Below w4.heap.size w4 w5 ∧ w5.heap.size = w4.heap.size + 1 := ⟨_, rfl, (Below.refl _ _).alloc (Nat.le_refl _) _, by simp⟩
    obtain ⟨w6, hw6, hb6, hs6, hn6⟩ : ∃ w6, w5.alloc (.cells #[.string t1, .string t2, .string t3] 9) = w6 ∧ Below w5.heap.size w5 w6 ∧ w6.heap.size = w5.heap.size + 1 ∧ w6.heap[w5.heap.size]? = some (.cells #[.string t1, .string t2, .string t3] 9 (0, 0)) := ⟨_, rfl, (Below.refl _ _).alloc (Nat.le_refl _) _, by simp, heap_alloc_new _ _⟩
    have JN := c_strings_Join w5.heap.size 0 3 [t1, t2, t3] ⟨#[32]⟩ w6 (fun j x hj => by
      rw [Nat.zero_add, cell_of_row _ _ _ _ _ _ hn6]
      match j, hj with
      | 0, hj => simp at hj; subst hj; rfl
      | 1, hj => simp at hj; subst hj; rfl
      | 2, hj => simp at hj; subst hj; rfl) (by omega) (by simp) (by simp) HLE.out
    obtain ⟨ln, hln⟩ : ∃ ln : ByteArray, (⟨(Lib.join ([t1, t2, t3].map (·.data.toList)) (⟨#[32]⟩ : ByteArray).data.toList).toArray⟩ : ByteArray) = ln := ⟨_, rfl⟩
    have HLN : Hid (ln.data.toList = lnB a b k n ks) := Lib.hid (by rw [← hln]; exact HE.out)
    rw [hln] at JN
    have HB6 := Lib.hid ((HB4.out.trans (hb5.mono HB4.out.size)).trans (hb6.mono (by have := HB4.out.size; omega)))
    have HW5 := Lib.hid hw5
    have HW6 := Lib.hid hw6
    rw [hs5] at JN
    clear hw5 hw6 hn6 hln HLE HE OR hb5 hb6 hs6
    rw [HW5.out]
    go_wp2_with fail
    (try rw [HW6.out])
    refine JN.mono ?_
    rintro e w7 ⟨rfl, hb7⟩
    go_wp2_with fail
    go_ret2
    exact ⟨HB6.out.trans (hb7.mono HB6.out.size), .inr ⟨HF.out, ln, HLN.out, rfl⟩⟩
  · have HF := Lib.hid hf
    obtain ⟨z, hz⟩ : ∃ z, fori a b n (chkd k n ks) = z := ⟨_, rfl⟩
    have HZ := Lib.hid hz
    rw [hz] at CH hf
    have e0 : (z != 0) = true := by simp [bne, hf]
    clear hw0 hK hT hz hT0
    go_enter Tryz.func20, Tryz.ntmps20
    go_wp2_with fail
    rw [← HW0.out]
    refine CH.mono ?_
    rintro e w1 ⟨rfl, hb1⟩
    go_wp2_with fail
    go_ret2
    exact ⟨hB0.trans (hb1.mono hB0.size), .inl ⟨HF.out, by rw [HZ.out]; rfl⟩⟩
def baL (l : List UInt8) : ByteArray := ⟨l.toArray⟩
theorem baL_list (l : List UInt8) : (baL l).data.toList = l := by simp [baL]
open Classical in
noncomputable def tcode (p q r : List UInt8) : Int := if h : ∃ x : Int × Int × Fo, Tree (baL r) x.1 x.2.1 x.2.2 then fori ((vl (baL p) (baL p).size : Nat) : Int) ((vl (baL q) (baL q).size : Nat) : Int) h.choose.2.1 (chkd h.choose.1 h.choose.2.1 h.choose.2.2) else 10
open Classical in
/-- The error of a line. -/
noncomputable def ecode (s : ByteArray) : Int := match wds s.data.toList with
  | some [p, q, r] => if IsN (baL p) ∧ IsN (baL q) then (if prs (baL r) ≠ 0 then prs (baL r) else tcode p q r) else 10
  | _ => 10
theorem ec_words {s : ByteArray} (h : ∀ p q r, wds s.data.toList ≠ some [p, q, r]) : ecode s = 10 := by
  unfold ecode
  split
  · rename_i p q r hw; exact absurd hw (h p q r)
  · rfl
theorem ec_num {s : ByteArray} {p q r : List UInt8} (h : wds s.data.toList = some [p, q, r]) (hn : ¬ (IsN (baL p) ∧ IsN (baL q))) : ecode s = 10 := by
  unfold ecode; rw [h]; simp only []; rw [if_neg hn]
theorem ec_tree {s : ByteArray} {p q r : List UInt8} (h : wds s.data.toList = some [p, q, r]) (hp : IsN (baL p)) (hq : IsN (baL q)) (hr : prs (baL r) ≠ 0) : ecode s = prs (baL r) := by
  unfold ecode; rw [h]; simp only []; rw [if_pos ⟨hp, hq⟩, if_pos hr]
theorem ec_for {s : ByteArray} {p q r : List UInt8} {k m : Int} {ks : Fo} (h : wds s.data.toList = some [p, q, r]) (hp : IsN (baL p)) (hq : IsN (baL q)) (hr : prs (baL r) = 0) (ht : Tree (baL r) k m ks) :
    ecode s = fori ((vl (baL p) (baL p).size : Nat) : Int) ((vl (baL q) (baL q).size : Nat) : Int) m (chkd k m ks) := by
  unfold ecode; rw [h]; simp only []; rw [if_pos ⟨hp, hq⟩, if_neg (fun e => e hr)]
  have hx : ∃ x : Int × Int × Fo, Tree (baL r) x.1 x.2.1 x.2.2 := ⟨(k, m, ks), ht⟩
  unfold tcode
  rw [dif_pos hx]
  obtain ⟨e1, e2, e3⟩ := hx.choose_spec.uniq ht
  rw [e1, e2, e3]
/-- A line's entry. -/
structure Ent (s : ByteArray) (a b k m : Int) (ks : Fo) : Prop where
  w : ∃ p q r, wds s.data.toList = some [p, q, r] ∧ IsN (baL p) ∧ IsN (baL q) ∧ a = ((vl (baL p) (baL p).size : Nat) : Int) ∧ b = ((vl (baL q) (baL q).size : Nat) : Int) ∧ Tree (baL r) k m ks
  f : fori a b m (chkd k m ks) = 0
theorem Ent.uniq {s : ByteArray} {a b k m a' b' k' m' : Int} {ks ks' : Fo} (h : Ent s a b k m ks) (h' : Ent s a' b' k' m' ks') : a = a' ∧ b = b' ∧ k = k' ∧ m = m' ∧ ks = ks' := by
  obtain ⟨p, q, r, hw, -, -, ha, hb, ht⟩ := h.w
  obtain ⟨p', q', r', hw', -, -, ha', hb', ht'⟩ := h'.w
  rw [hw] at hw'
  simp only [Option.some.injEq, List.cons.injEq, and_true] at hw'
  obtain ⟨rfl, rfl, rfl⟩ := hw'
  obtain ⟨e1, e2, e3⟩ := ht.uniq ht'
  exact ⟨ha.trans ha'.symm, hb.trans hb'.symm, e1, e2, e3⟩
/-- The line is that entry's line. -/
theorem Ent.line {s : ByteArray} {a b k m : Int} {ks : Fo} (h : Ent s a b k m ks) : lnB a b k m ks = s.data.toList := by
  obtain ⟨p, q, r, hw, hp, hq, rfl, rfl, ht⟩ := h.w
  have h1 := isNL_dec ((isN_list _).1 hp)
  have h2 := isNL_dec ((isN_list _).1 hq)
  rw [← vl_all, baL_list] at h1 h2
  have h3 := ht.2
  rw [baL_list] at h3
  have hf := wds_full hw
  unfold lnB
  rw [Int.toNat_natCast, Int.toNat_natCast, h1.1, h2.1, show ndB k m ks = r from h3.symm, ← hf]
  simp [fullw, tlw]
/-- What the readers of a line tell. -/
def EPaOk (s : ByteArray) (W : World) (e : Ending) (w' : World) : Prop := Below W.heap.size W w' ∧
  ((ecode s ≠ 0 ∧ e = .returned (.tuple #[.agg #[.int .i64 0, .int .i64 0, .int .i64 0, .int .i64 0, .slice none 0 0], .int .i64 (ecode s)])) ∨
    (ecode s = 0 ∧ ∃ (a b k m : Int) (ks : Fo) (v : Value), Ent s a b k m ks ∧ KidsF W.heap.size w' v ks ∧ e = .returned (.tuple #[.agg #[.int .i64 a, .int .i64 b, .int .i64 k, .int .i64 m, v], .int .i64 0])))
theorem epa_bad {s : ByteArray} {W w : World} {b : Nat} {c : Int} (hB : Below W.heap.size W w) (hb : W.heap.size ≤ b) (hc : ecode s = c) (h0 : c ≠ 0) : EPaOk s W (.returned (.tuple #[.agg #[.int .i64 0, .int .i64 0, .int .i64 0, .int .i64 0, .slice none 0 0], .int .i64 c])) (s5 w b (.int .i64 0) (.int .i64 0) (.int .i64 0) (.int .i64 0) (.slice none 0 0)) := by
  subst hc
  exact ⟨hB.trans (s5_below _ _ _ _ _ hb), .inl ⟨h0, rfl⟩⟩
theorem epa_good {s : ByteArray} {W w : World} {g : Nat} {a b k m : Int} {ks : Fo} {v : Value} (hB : Below W.heap.size W w) (hb : W.heap.size ≤ g) (hc : ecode s = 0) (he : Ent s a b k m ks) (hk : KidsS w (fun x => W.heap.size ≤ x ∧ x < w.heap.size ∧ x ≠ g) v ks) :
    EPaOk s W (.returned (.tuple #[.agg #[.int .i64 a, .int .i64 b, .int .i64 k, .int .i64 m, v], .int .i64 0])) (s5 w g (.int .i64 a) (.int .i64 b) (.int .i64 k) (.int .i64 m) v) := by
  refine ⟨hB.trans (s5_below _ _ _ _ _ hb), .inr ⟨hc, a, b, k, m, ks, v, he, ?_, rfl⟩⟩
  exact hk.carry (w' := s5 w g (.int .i64 a) (.int .i64 b) (.int .i64 k) (.int .i64 m) v) (fun x hx => ⟨⟨hx.1, by rw [s5_size]; exact hx.2.1⟩, s5_other _ _ _ _ _ hx.2.2⟩)
theorem vl_bd {s : ByteArray} (h : IsN s) : vl s s.size ≤ 999999999 := by
  have := (isNL_dec ((isN_list _).1 h)).2
  rw [← vl_all] at this; exact this
end Go.Proofs.YtafmiilkdhdngaaGreatDoor
/- An entry's printed line is that entry's line: its three words. -/
namespace Go.Proofs.YtafmiilkdhdngaaGreatDoor
open Go.ChangeShapes Go.WideShapes Go.ChangeAt Go.RowKit
set_option linter.unusedVariables false
set_option linter.unusedSimpArgs false
theorem wrd_signs : ∀ i : Fin 8, ∀ b ∈ (wrd i.val).data.toList, 97 ≤ b.toNat ∧ b.toNat ≤ 122 := by decide +kernel
def gdB (b : UInt8) : Prop := okB b = true ∧ b ≠ 32
theorem gdB_of {b : UInt8} (h : 33 ≤ b.toNat ∧ b.toNat ≤ 126) : gdB b :=
  ⟨decide_eq_true (by omega), fun e => by subst e; exact absurd h.1 (by decide)⟩
theorem dec_gd (n : Nat) : ∀ b ∈ Lib.decDigits n, gdB b := fun b hb => by
  have := dec_dig n b hb; exact gdB_of (by omega)
theorem hdB_gd {k n : Int} (h : okT1 k n) : ∀ b ∈ hdB k n, gdB b := fun b hb => by
  rcases List.mem_append.1 hb with hb | hb
  · have := wrd_signs ⟨k.toNat, by have := h.1; omega⟩ b (by
      show b ∈ (wrd ((k.toNat : Nat) : Int)).data.toList
      rw [Int.toNat_of_nonneg (by have := h.1; omega)]; exact hb)
    exact gdB_of (by omega)
  · exact dec_gd _ b hb
theorem txB_gd : ∀ f : Fo, f.okT → ∀ b ∈ txB f, gdB b := by
  intro f
  induction f with
  | nil => intro _ b hb; cases hb
  | cons k n ks r i1 i2 =>
    rintro ⟨h1, h2, h3⟩ b hb
    have e : txB (.cons k n ks r) = hdB k n ++ ((if ks.len = 0 then [] else 40 :: (txB ks ++ [41])) ++ (if r.len = 0 then [] else 44 :: txB r)) := rfl
    rw [e] at hb
    rcases List.mem_append.1 hb with hb | hb
    · exact hdB_gd h1 b hb
    rcases List.mem_append.1 hb with hb | hb
    · by_cases hl : ks.len = 0
      · rw [if_pos hl] at hb; cases hb
      · rw [if_neg hl] at hb
        rcases List.mem_cons.1 hb with rfl | hb
        · exact gdB_of (by decide)
        rcases List.mem_append.1 hb with hb | hb
        · exact i1 h2 b hb
        · rw [List.mem_singleton] at hb; subst hb; exact gdB_of (by decide)
    · by_cases hl : r.len = 0
      · rw [if_pos hl] at hb; cases hb
      · rw [if_neg hl] at hb
        rcases List.mem_cons.1 hb with rfl | hb
        · exact gdB_of (by decide)
        · exact i2 h3 b hb
theorem splA_end (p : List UInt8) : ∀ cur, (∀ b ∈ p, gdB b) → splA cur p = [cur ++ p] := by
  induction p with
  | nil => intro cur _; simp [splA]
  | cons b l ih =>
    intro cur h
    unfold splA
    rw [if_neg (h b (List.mem_cons_self ..)).2, ih _ (fun x hx => h x (List.mem_cons_of_mem _ hx))]
    simp
theorem splA_word (p l : List UInt8) : ∀ cur, (∀ b ∈ p, gdB b) → splA cur (p ++ 32 :: l) = (cur ++ p) :: splA [] l := by
  induction p with
  | nil => intro cur _; simp [splA]
  | cons b q ih =>
    intro cur h
    rw [List.cons_append, splA, if_neg (h b (List.mem_cons_self ..)).2, ih _ (fun x hx => h x (List.mem_cons_of_mem _ hx))]
    simp
theorem dec_ne (n : Nat) : Lib.decDigits n ≠ [] := fun h => by
  obtain ⟨b, r, e, -⟩ := dec_head n
  rw [e] at h; cases h
theorem ln_words {a b k n : Int} {ks : Fo} (hok : (Fo.cons k n ks .nil).okT) : wds (lnB a b k n ks) = some [Lib.decDigits a.toNat, Lib.decDigits b.toNat, ndB k n ks] := by
  have ga := dec_gd a.toNat
  have gb := dec_gd b.toNat
  have gt : ∀ x ∈ ndB k n ks, gdB x := txB_gd _ hok
  have hs : splA [] (lnB a b k n ks) = [Lib.decDigits a.toNat, Lib.decDigits b.toNat, ndB k n ks] := by
    unfold lnB
    rw [splA_word _ _ _ ga, splA_word _ _ _ gb, splA_end _ _ gt]
    rfl
  have hne : lnB a b k n ks ≠ [] := fun h => by
    unfold lnB at h
    exact dec_ne _ (List.append_eq_nil_iff.1 h).1
  have hnd : ndB k n ks ≠ [] := fun h => by
    have := tx_cntB hok
    rw [show txB (.cons k n ks .nil) = ndB k n ks from rfl, h] at this
    simp at this
  have hall : (lnB a b k n ks).all okB = true := by
    refine List.all_eq_true.2 fun x hx => ?_
    unfold lnB at hx
    rcases List.mem_append.1 hx with hx | hx
    · exact (ga x hx).1
    rcases List.mem_cons.1 hx with rfl | hx
    · rfl
    rcases List.mem_append.1 hx with hx | hx
    · exact (gb x hx).1
    rcases List.mem_cons.1 hx with rfl | hx
    · rfl
    · exact (gt x hx).1
  unfold wds
  rw [if_neg hne, hall, hs]
  have h1 := dec_ne a.toNat
  have h2 := dec_ne b.toNat
  simp [h1, h2, hnd]
/-- The line is read as that entry. -/
theorem ln_ent {s : ByteArray} {a b k n : Int} {ks : Fo} (hs : s.data.toList = lnB a b k n ks) (hf : fori a b n (chkd k n ks) = 0) : Ent s a b k n ks ∧ ecode s = 0 ∧ s.size ≤ 1100 := by
  obtain ⟨⟨ha1, ha2⟩, hb01, hck, hna⟩ := fori_zero hf
  obtain ⟨hbg, hok⟩ := chk_okT hck
  have hw := ln_words (a := a) (b := b) hok
  rw [← hs] at hw
  have hle := txB_le _ hok
  have e4 : (Fo.cons k n ks .nil).cnt = ks.cnt + 0 + 1 := rfl
  have hcn : ks.cnt + 1 ≤ 60 := by
    unfold bigT at hbg; omega
  have hla := (dec_len (n := a.toNat) (by omega)).2
  have hlb := (dec_len (n := b.toNat) (by omega)).2
  have hnl : (ndB k n ks).length ≤ 1020 := by
    show (txB _).length ≤ _
    omega
  obtain ⟨pa, va⟩ := dec_isN (n := a.toNat) (by omega) (baL (Lib.decDigits a.toNat)) (baL_list _)
  obtain ⟨pb, vb⟩ := dec_isN (n := b.toNat) (by omega) (baL (Lib.decDigits b.toNat)) (baL_list _)
  have ht : Tree (baL (ndB k n ks)) k n ks := ⟨hok, baL_list _⟩
  have hz : ¬ 4096 < (baL (ndB k n ks)).size := by rw [Lib.size_eq, baL_list]; omega
  have hp := prs_ok hz ht hbg
  have ea : a = ((vl (baL (Lib.decDigits a.toNat)) (baL (Lib.decDigits a.toNat)).size : Nat) : Int) := by rw [va]; omega
  have eb : b = ((vl (baL (Lib.decDigits b.toNat)) (baL (Lib.decDigits b.toNat)).size : Nat) : Int) := by rw [vb]; omega
  refine ⟨⟨⟨_, _, _, hw, pa, pb, ea, eb, ht⟩, hf⟩, ?_, ?_⟩
  · rw [ec_for hw pa pb hp ht, ← ea, ← eb]; exact hf
  · rw [Lib.size_eq, hs]
    unfold lnB
    simp only [List.length_append, List.length_cons]
    omega
end Go.Proofs.YtafmiilkdhdngaaGreatDoor
/- The library's contracts at this program (this seat alone: its numbers; written by gensheld.py). -/
namespace Go.Proofs.YtafmiilkdhdngaaGreatDoor
open Go.Shelf Go.ChangeShapes Go.WideShapes Go.ChangeAt Go.RowKit
def lays145_ren : Go.Shelf.Ren := ⟨fun | 145 => 70 | 220 => 89 | 219 => 105 | 217 => 117 | 225 => 118 | 224 => 119 | 267 => 120 | 266 => 135 | 314 => 136 | n => n, fun | 9 => 9 | 4 => 4 | 59 => 116 | 3 => 3 | 5 => 5 | 46 => 156 | 146 => 172 | 51 => 169 | n => n, fun | 1 => 0 | n => n⟩
theorem lays145 : Go.Proofs.Lays.n145 Tryz.prog lays145_ren := {
  mixed := by kernel_rfl
  f145 := Tryz.func70.trans (congrArg some (by kernel_rfl))
  f217 := Tryz.func117.trans (congrArg some (by kernel_rfl))
  f219 := Tryz.func105.trans (congrArg some (by kernel_rfl))
  f220 := Tryz.func89.trans (congrArg some (by kernel_rfl))
  f224 := Tryz.func119.trans (congrArg some (by kernel_rfl))
  f225 := Tryz.func118.trans (congrArg some (by kernel_rfl))
  f266 := Tryz.func135.trans (congrArg some (by kernel_rfl))
  f267 := Tryz.func120.trans (congrArg some (by kernel_rfl))
  f314 := Tryz.func136.trans (congrArg some (by kernel_rfl))
  t3 := Tryz.underlying3
  a3 := Tryz.isAgg3
  z3 := Tryz.sizeOf3
  v3 := Tryz.zeroValue3
  t4 := Tryz.underlying4
  a4 := Tryz.isAgg4
  z4 := Tryz.sizeOf4
  v4 := Tryz.zeroValue4
  t5 := Tryz.underlying5
  a5 := Tryz.isAgg5
  z5 := Tryz.sizeOf5
  v5 := Tryz.zeroValue5
  t9 := Tryz.underlying9
  a9 := Tryz.isAgg9
  z9 := Tryz.sizeOf9
  v9 := Tryz.zeroValue9
  t46 := Tryz.underlying156
  a46 := Tryz.isAgg156
  z46 := Tryz.sizeOf156
  v46 := Tryz.zeroValue156
  t51 := Tryz.underlying169
  a51 := Tryz.isAgg169
  z51 := Tryz.sizeOf169
  v51 := Tryz.zeroValue169
  t59 := Tryz.underlying116
  a59 := Tryz.isAgg116
  z59 := Tryz.sizeOf116
  v59 := Tryz.zeroValue116
  t146 := Tryz.underlying172
  a146 := Tryz.isAgg172
  z146 := Tryz.sizeOf172
  v146 := Tryz.zeroValue172
  g1 := by kernel_rfl }
open Go.RowKit Go.Lib in
theorem c_strings_Cut (s sep : ByteArray) (m : Int) (w : World) (hs : s.size < 4294967281) (hm : w.cell? ⟨0, 0, none⟩ = some (.int .i64 m)) :
    Calls Tryz.prog 70 #[.string s, .string sep] w fun e w' => e = .returned (.tuple #[.string ⟨(Lib.cut s.data.toList sep.data.toList).1.toArray⟩, .string ⟨(Lib.cut s.data.toList sep.data.toList).2.1.toArray⟩, .bool (Lib.cut s.data.toList sep.data.toList).2.2]) ∧ ∃ n, w' = w.drewN n := Any.strings_Cut lays145 s sep m w hs hm
def lays103_ren : Go.Shelf.Ren := ⟨fun | 103 => 25 | 210 => 43 | 206 => 69 | n => n, fun | 9 => 9 | 4 => 4 | 24 => 60 | 3 => 3 | n => n, fun | n => n⟩
theorem lays103 : Go.Proofs.Lays.n103 Tryz.prog lays103_ren := {
  mixed := by kernel_rfl
  f103 := Tryz.func25.trans (congrArg some (by kernel_rfl))
  f206 := Tryz.func69.trans (congrArg some (by kernel_rfl))
  f210 := Tryz.func43.trans (congrArg some (by kernel_rfl))
  t3 := Tryz.underlying3
  a3 := Tryz.isAgg3
  z3 := Tryz.sizeOf3
  v3 := Tryz.zeroValue3
  t4 := Tryz.underlying4
  a4 := Tryz.isAgg4
  z4 := Tryz.sizeOf4
  v4 := Tryz.zeroValue4
  t9 := Tryz.underlying9
  a9 := Tryz.isAgg9
  z9 := Tryz.sizeOf9
  v9 := Tryz.zeroValue9
  t24 := Tryz.underlying60
  a24 := Tryz.isAgg60
  z24 := Tryz.sizeOf60
  v24 := Tryz.zeroValue60 }
open Go.RowKit in
theorem c_strings_CutPrefix (s p : ByteArray) (w : World) :
    Calls Tryz.prog 25 #[.string s, .string p] w fun e w' => e = .returned (.tuple #[.string ⟨(Lib.trimPrefix s.data.toList p.data.toList).toArray⟩, .bool (Lib.hasPrefix s.data.toList p.data.toList)]) ∧ w' = w := Any.strings_CutPrefix lays103 s p w
end Go.Proofs.YtafmiilkdhdngaaGreatDoor
/- lex.Line and the reference's: up to the first line feed. -/
namespace Go.Proofs.YtafmiilkdhdngaaGreatDoor
open Go.ChangeShapes Go.WideShapes Go.ChangeAt Go.RowKit
set_option linter.unusedVariables false
set_option linter.unusedSimpArgs false

theorem idx10 (l : List UInt8) : (∃ n : Nat, Lib.index l [10] = n ∧ l[n]? = some 10 ∧ ∀ j, j < n → l[j]? ≠ some 10) ∨ (Lib.index l [10] = -1 ∧ ∀ j : Nat, l[j]? ≠ some 10) := by
  induction l with
  | nil => exact .inr ⟨rfl, by simp⟩
  | cons b l ih =>
    rw [Lib.index]
    by_cases h : b = 10
    · subst h
      exact .inl ⟨0, by simp [List.isPrefixOf], rfl, fun j hj => absurd hj (Nat.not_lt_zero _)⟩
    · have h' : ¬ (10 : UInt8) = b := fun e => h e.symm
      rcases ih with ⟨n, h1, h2, h3⟩ | ⟨h1, h2⟩
      · refine .inl ⟨n + 1, ?_, by simpa using h2, fun j hj => ?_⟩
        · rw [h1]
          have : ¬ (((n : Int) == -1) = true) := by rw [beq_iff_eq]; omega
          simp [List.isPrefixOf, h', this]
        · cases j with
          | zero => simpa using h
          | succ j => simpa using h3 j (by omega)
      · refine .inr ⟨?_, fun j => ?_⟩
        · rw [h1]; simp [List.isPrefixOf, h']
        · cases j with
          | zero => simpa using h
          | succ j => simpa using h2 j
theorem bt10 {s : ByteArray} {i : Nat} (h : i < s.size) : bt s i = 10 ↔ s.data.toList[i]? = some 10 := by
  rw [(bt_list s i h).2, (bt_list s i h).1]
  constructor
  · intro e; rw [show s[i] = 10 from UInt8.toNat_inj.1 (by rw [e]; rfl)]
  · intro e; rw [Option.some.inj e]; rfl

/-- The first line feed from a place on. -/
def Fst (s : ByteArray) (at_ : Int) (i : Nat) : Prop := 0 ≤ at_ ∧ at_ ≤ i ∧ i < s.size ∧ bt s i = 10 ∧ ∀ j : Nat, at_ ≤ j → j < i → bt s j ≠ 10
def Nof (s : ByteArray) (at_ : Int) : Prop := at_ < 0 ∨ ∀ j : Nat, at_ ≤ j → j < s.size → bt s j ≠ 10
theorem Fst.uniq {s : ByteArray} {a : Int} {i j : Nat} (h : Fst s a i) (g : Fst s a j) : i = j := by
  rcases Nat.lt_trichotomy i j with h1 | h1 | h1
  · exact absurd h.2.2.2.1 (g.2.2.2.2 i h.2.1 h1)
  · exact h1
  · exact absurd g.2.2.2.1 (h.2.2.2.2 j g.2.1 h1)
theorem Fst.not {s : ByteArray} {a : Int} {i : Nat} (h : Fst s a i) (g : Nof s a) : False := by
  rcases g with g | g
  · have := h.1; omega
  · exact g i h.2.1 h.2.2.1 h.2.2.2.1

set_option maxRecDepth 100000 in
theorem lex_line (s : ByteArray) (hs : s.size ≤ 70000) (a : Int) (wa : -9223372036854775808 ≤ a ∧ a ≤ 9223372036854775807) (w : World) (hm : ∃ m, w.cell? ⟨0, 0, none⟩ = some (.int .i64 m)) :
    Calls Tryz.prog 45 #[.string s, .int .i64 a] w fun e w' => Below w.heap.size w w' ∧ ((Nof s a ∧ e = .returned (.tuple #[.string ⟨#[]⟩, .int .i64 0, .bool false])) ∨
      ∃ i : Nat, Fst s a i ∧ e = .returned (.tuple #[.string (s.extract a.toNat i), .int .i64 ((i : Int) + 1), .bool true])) := by
  by_cases h0 : a < 0
  · have d1 : decide (a < 0) = true := decide_eq_true h0
    go_enter Tryz.func45, Tryz.ntmps45
    go_wp2
    go_ret3
    exact ⟨Below.refl _ _, .inl ⟨.inl h0, rfl⟩⟩
  · have d1 : decide (a < 0) = false := decide_eq_false h0
    by_cases h1 : a > s.size
    · have d2 : decide (a > (s.size : Int)) = true := decide_eq_true h1
      have d2' : decide ((s.size : Int) < a) = true := decide_eq_true h1
      go_enter Tryz.func45, Tryz.ntmps45
      go_wp2
      go_ret3
      exact ⟨Below.refl _ _, .inl ⟨.inr fun j h2 h3 => by omega, rfl⟩⟩
    · obtain ⟨p, rfl⟩ : ∃ p : Nat, a = p := ⟨a.toNat, by omega⟩
      have d2 : decide ((p : Int) > (s.size : Int)) = false := decide_eq_false h1
      have d2' : decide (s.size < p) = false := decide_eq_false (by omega)
      have hsl : ∀ wx, (Instr.slice 9 (.string s) (some (.int .i64 (p : Int))) none none).run Tryz.prog wx = .ok (.string (s.extract p s.size)) wx := fun wx => by
        rw [run_slice_string_from_if wx _ s .i64 (p : Int) Tryz.underlying9]
        simp
        omega
      obtain ⟨x, hx⟩ : ∃ x, s.extract p s.size = x := ⟨_, rfl⟩
      have hxd : x.data.toList = s.data.toList.drop p := by
        rw [← hx, Lib.extract_data, Lib.size_eq]
        rw [List.take_of_length_le (by simp)]
      have hxs : x.size ≤ s.size := by rw [← hx, ByteArray.size_extract]; omega
      rw [hx] at hsl
      obtain ⟨m, hm⟩ := hm
      have C := Lib.hid (c_strings_Cut x ⟨#[10]⟩ m w (by omega) hm)
      have hget : ∀ j, x.data.toList[j]? = s.data.toList[p + j]? := fun j => by rw [hxd, List.getElem?_drop]
      rcases idx10 x.data.toList with ⟨n, e1, e2, e3⟩ | ⟨e1, e2⟩
      · have hn : p + n < s.size := by
          rw [hget, List.getElem?_eq_some_iff] at e2
          obtain ⟨h, _⟩ := e2
          rw [Lib.size_eq]; exact h
        have hF : Fst s p (p + n) := ⟨by omega, by omega, hn, (bt10 hn).2 (by rw [← hget]; exact e2), fun j h2 h3 => by
          intro h4
          have := (bt10 (by omega)).1 h4
          have h5 := e3 (j - p) (by omega)
          rw [hget, show p + (j - p) = j by omega] at h5
          exact h5 this⟩
        have hcut : Lib.cut x.data.toList (ByteArray.mk #[10]).data.toList = (x.data.toList.take n, x.data.toList.drop (n + 1), true) := by
          unfold Lib.cut
          have e1' : Lib.index x.data.toList (ByteArray.mk #[10]).data.toList = (n : Int) := e1
          rw [e1', if_pos (by omega)]
          simp
        have C := Lib.hid (by have := C.out; rw [hcut] at this; exact this)
        have hex : (⟨(x.data.toList.take n).toArray⟩ : ByteArray) = s.extract p (p + n) := by
          rw [Lib.extract_eq, hxd, show p + n - p = n by omega]
        have C := Lib.hid (by have := C.out; rw [hex] at this; exact this)
        clear hcut hex e1 e2 e3 hget hxd hxs hx
        go_enter Tryz.func45, Tryz.ntmps45
        go_wp2_with fail
        refine C.out.mono ?_
        rintro e w1 ⟨rfl, q, rfl⟩
        have hsz : (s.extract p (p + n)).size = n := by rw [ByteArray.size_extract]; omega
        go_wp2_with fail
        go_ret3
        exact ⟨below_drewN (Below.refl _ _) q, .inr ⟨p + n, hF, by simp⟩⟩
      · have hN : Nof s p := .inr fun j h2 h3 h4 => by
          have := (bt10 h3).1 h4
          have h5 := e2 (j - p)
          rw [hget, show p + (j - p) = j by omega] at h5
          exact h5 this
        have hcut : Lib.cut x.data.toList (ByteArray.mk #[10]).data.toList = (x.data.toList, [], false) := by
          unfold Lib.cut
          have e1' : Lib.index x.data.toList (ByteArray.mk #[10]).data.toList = -1 := e1
          rw [e1', if_neg (by omega)]
        have C := Lib.hid (by have := C.out; rw [hcut] at this; exact this)
        clear hcut e1 e2 hget hxd hxs hx
        go_enter Tryz.func45, Tryz.ntmps45
        go_wp2_with fail
        refine C.out.mono ?_
        rintro e w1 ⟨rfl, q, rfl⟩
        go_wp2_with fail
        go_ret3
        exact ⟨below_drewN (Below.refl _ _) q, .inl ⟨hN, rfl⟩⟩

set_option maxRecDepth 100000 in
theorem ref_line (s : ByteArray) (hs : s.size ≤ 70000) (a : Int) (wa : -9223372036854775808 ≤ a ∧ a ≤ 9223372036854775807) (w : World) :
    Calls Tryz.prog 31 #[.string s, .int .i64 a] w fun e w' => w = w' ∧ ((Nof s a ∧ e = .returned (.tuple #[.string ⟨#[]⟩, .int .i64 0, .bool false])) ∨
      ∃ i : Nat, Fst s a i ∧ e = .returned (.tuple #[.string (s.extract a.toNat i), .int .i64 ((i : Int) + 1), .bool true])) := by
  by_cases h0 : 0 ≤ a
  · obtain ⟨p, rfl⟩ : ∃ p : Nat, a = p := ⟨a.toNat, by omega⟩
    have d1 : decide ((p : Int) ≥ 0) = true := decide_eq_true h0
    go_enter Tryz.func31, Tryz.ntmps31
    go_wp2
    go_loopw [7] (fun x wi => ∃ i : Nat, x = .int .i64 i ∧ p ≤ i ∧ (i : Int) ≤ 9223372036854775807 ∧ Hid (∀ j : Nat, p ≤ j → j < i → bt s j ≠ 10) ∧ w = wi) (fun x _ => s.size - (intOf x).toNat)
    case atStart => exact ⟨p, rfl, Nat.le_refl _, wa.2, Lib.hid (fun j h1 h2 => absurd h1 (by omega)), rfl⟩
    case round =>
      obtain ⟨i, rfl, hpi, hib, HN, rfl⟩ := hrel
      by_cases hlt : i < s.size
      · have d2 : decide ((i : Int) < (s.size : Int)) = true := decide_eq_true (by omega)
        have d2' : decide (i < s.size) = true := decide_eq_true hlt
        have hix := idx_at s i hlt
        have hsub := sub_at s p i hpi (by omega)
        by_cases hb : bt s i = 10
        · have hF : Fst s p i := ⟨by omega, by omega, hlt, hb, fun j h1 h2 => HN.out j (by omega) h2⟩
          rw [hb] at hix
          clear HN hb
          go_wp2
          go_ret3
          exact ⟨rfl, .inr ⟨i, hF, rfl⟩⟩
        · have e1 : ((bt s i : Int) == 10) = false := by rw [beq_eq_false_iff_ne]; omega
          have e1' : ((bt s i) == 10) = false := by rw [beq_eq_false_iff_ne]; exact hb
          have HN2 := Lib.hid (show ∀ j : Nat, p ≤ j → j < i + 1 → bt s j ≠ 10 from fun j h1 h2 => by
            by_cases e : j = i
            · rw [e]; exact hb
            · exact HN.out j h1 (by omega))
          clear HN hb
          go_wp2
          go_roundw
          case rel => exact ⟨i + 1, rfl, by omega, by omega, HN2, by first | rfl | trivial⟩
          case measure => (first | (simp [intOf]; done) | (simp [intOf]; omega) | (simp only [intOf]; omega))
      · have d2 : decide ((i : Int) < (s.size : Int)) = false := decide_eq_false (by omega)
        have d2' : decide (i < s.size) = false := decide_eq_false hlt
        have hN : Nof s p := .inr fun j h1 h2 => HN.out j (by omega) (by omega)
        clear HN
        go_wp2
        go_ret3
        exact ⟨rfl, .inl ⟨hN, rfl⟩⟩
  · have d1 : decide (a ≥ 0) = false := decide_eq_false h0
    have d1' : decide (0 ≤ a) = false := decide_eq_false h0
    go_enter Tryz.func31, Tryz.ntmps31
    go_wp2
    go_loopw [7] (fun x wi => x = .int .i64 a ∧ w = wi) (fun _ _ => 0)
    case atStart => exact ⟨rfl, rfl⟩
    case round =>
      obtain ⟨rfl, rfl⟩ := hrel
      go_wp2
      go_ret3
      exact ⟨rfl, .inl ⟨.inl (by omega), rfl⟩⟩
end Go.Proofs.YtafmiilkdhdngaaGreatDoor
