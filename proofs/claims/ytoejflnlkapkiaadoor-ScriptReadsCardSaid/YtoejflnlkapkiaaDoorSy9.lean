/- Put together by program (merge2.py): Sfc Sga Scz. -/
import Derived.Laws.Concat
import Derived.Shelf.Strconv.ErrVarAll
import Derived.Shelf.Pu.ErrVarParseUint
import Derived.Test.YtoejflnlkapkiaaDoorSy2
import Derived.Test.YtoejflnlkapkiaaDoorSy8
/- script.words, for every call. -/
namespace Go.Proofs.YtoejflnlkapkiaaDoor
open Go.ChangeShapes Go.WideShapes Go.ChangeAt Go.RowKit
set_option linter.unusedVariables false
set_option linter.unusedSimpArgs false
theorem udS_at {xs : List Int} {k : Nat} (h : k < xs.length) : (xs.take (k + 1)).map udS = (xs.take k).map udS ++ [udS (xs.getD k 0)] := by
  rw [List.take_add_one, List.getElem?_eq_getElem h, List.map_append, List.getD_eq_getElem?_getD, List.getElem?_eq_getElem h]; rfl
theorem wsV_app (l m : List ByteArray) : (l ++ m).map (Value.string ·) = l.map (Value.string ·) ++ m.map (Value.string ·) := List.map_append
theorem own_two (w : World) (B : Nat) (u v : Value) (hB : B ≤ w.heap.size) : (w.alloc (.cells #[u, v] 9)).ownsRow B 9 1 (.slice (some ⟨w.heap.size, 0, none⟩) 2 2) 2 [u, v] :=
  ⟨rfl, .inr ⟨w.heap.size, 2, #[u, v], rfl, hB, heap_alloc_new _ _, Nat.le_refl _, by decide, rfl, rfl⟩⟩
set_option maxRecDepth 100000 in
set_option maxHeartbeats 8000000 in
theorem sc_words (c : Cl) (x : Value) (W : World) (hx : RowX W x c.xs) (hc : c.ok) (hs : c.s.size ≤ 100000000) (hn : c.xs.length ≤ 1000000) (hT : Lib.TabIs Tryd.prog W "internal/strconv.uint64pow10" .u64 Lib.pow10Tab) :
    Calls Tryd.prog 22 #[c.val x] W (Words W ((wsC c).map (Value.string ·))) := by
  by_cases h3 : c.kd = 1 ∨ c.kd = 2 ∨ c.kd = 3
  · have h := sc_words_key c x W (by obtain ⟨p, k, rfl, -⟩ := hx; exact ⟨_, _, _, rfl⟩) h3 hc hT
    have e : wsC c = wsL (wdK c.kd) [c.n, c.dir] := by unfold wsC; rw [if_pos h3]
    rw [e, wsL_val]; exact h
  obtain ⟨p, k, rfl, hr⟩ := hx
  obtain ⟨kd, a, b, s, who, ar, xs⟩ := c
  have hwho := hc.who
  have har := hc.at'
  simp only at h3 hwho har hs hn hr
  show Calls Tryd.prog 22 #[.agg #[.int .i64 kd, .int .i64 a, .int .i64 b, .string s, .int .i64 who, .int .i64 ar, .slice p xs.length k]] W (Words W ((wsC ⟨kd, a, b, s, who, ar, xs⟩).map (Value.string ·)))
  obtain ⟨w0, hw0, r0, hB0, hs0⟩ := boxG W #[.int .i64 kd, .int .i64 a, .int .i64 b, .string s, .int .i64 who, .int .i64 ar, .slice p xs.length k] 49
  obtain ⟨x0, x1, x2, x3, x4, x5, x6⟩ := cells7 r0
  have HR0 := Lib.hid r0
  have WD := Lib.hid (fun (w : World) => sc_word kd w)
  have HB0 := Lib.hid hB0
  have HS0 := Lib.hid hs0
  have HT0 := Lib.hid (pow10_bel hT hB0)
  have HRW := Lib.hid hr
  have HTW := Lib.hid hT
  clear hc hT r0 hB0 hs0 hr
  by_cases h4 : kd = 4
  · subst h4
    by_cases he : s.data.toList = []
    · have e : wsC ⟨4, a, b, s, who, ar, xs⟩ = [wdK 4] := by unfold wsC; simp [he]
      have e0 : s.toList.isEmpty = true := by rw [sc_str_nil]; exact decide_eq_true he
      rw [e]
      have HO := Lib.hid (own_made1 w0 W.heap.size 9 (.string (wdK 4)) HB0.out.size)
      have HBF := Lib.hid (HB0.out.alloc HB0.out.size (.cells #[.string (wdK 4)] 9))
      clear he e
      go_enter Tryd.func22, Tryd.ntmps22
      go_wp2_with fail
      refine (WD.out _).mono ?_
      rintro e w2 ⟨rfl, rfl⟩
      go_wp2_with fail
      go_ret
      exact ⟨_, rfl, HO.out, HBF.out⟩
    · have e : wsC ⟨4, a, b, s, who, ar, xs⟩ = [wdK 4, ⟨(hexB s).toArray⟩] := by unfold wsC; simp [he]
      have e0 : s.toList.isEmpty = false := by rw [sc_str_nil]; exact decide_eq_false he
      rw [e]
      have HX := Lib.hid (sc_hex s w0 hs)
      clear he e
      go_enter Tryd.func22, Tryd.ntmps22
      go_wp2_with fail
      refine (WD.out _).mono ?_
      rintro e w2 ⟨rfl, rfl⟩
      go_wp2_with fail
      refine HX.out.mono ?_
      rintro e w3 ⟨rfl, hb3⟩
      have HB3 := Lib.hid (HB0.out.trans (hb3.mono HB0.out.size))
      have HO := Lib.hid (own_two w3 W.heap.size (.string (wdK 4)) (.string ⟨(hexB s).toArray⟩) HB3.out.size)
      have HBF := Lib.hid (HB3.out.alloc HB3.out.size (.cells #[.string (wdK 4), .string ⟨(hexB s).toArray⟩] 9))
      clear hb3
      go_wp2_with fail
      go_ret
      exact ⟨_, rfl, HO.out, HBF.out⟩
  by_cases h6 : kd = 6
  · subst h6
    have e : wsC ⟨6, a, b, s, who, ar, xs⟩ = wsL (wdK 6) [who, ar] ++ xs.map udS := by unfold wsC; simp
    rw [e]
    obtain ⟨LL, hLL⟩ : ∃ LL, (wsL (wdK 6) [who, ar] ++ xs.map udS).map (Value.string ·) = LL := ⟨_, rfl⟩
    rw [hLL]
    have HLL := Lib.hid hLL
    clear hLL
    obtain ⟨w1, hw1, r1, hB1, hs1⟩ := boxG w0 #[.int .i64 who, .int .i64 ar] 3
    have NU := sc_numbers (wdK 6) (some ⟨w0.heap.size, 0, none⟩) 2 2 [who, ar] w1 (by rw [← hw1]; exact rowI2 w0 who ar hwho har) (by decide) (pow10_bel HT0.out hB1)
    have HBB := Lib.hid (HB0.out.trans (hB1.mono HB0.out.size))
    have NU := Lib.hid NU
    have HN := Lib.hid hn
    have HR1 := Lib.hid ((hB1.block _ (by have := HS0.out; omega)).trans HR0.out)
    have HT1 := Lib.hid (pow10_bel HT0.out hB1)
    clear r1 hB1 hs1 e hwho har hn
    go_enter Tryd.func22, Tryd.ntmps22
    go_wp2_with fail
    refine (WD.out _).mono ?_
    rintro e w2 ⟨rfl, rfl⟩
    go_wp2_with fail
    refine NU.out.mono ?_
    rintro e w2 ⟨v, rfl, ho, hb⟩
    have HO2 := Lib.hid (show w2.ownsRow W.heap.size 9 1 v (3 + 0) ((wsL (wdK 6) [who, ar] ++ (xs.take 0).map udS).map (Value.string ·)) from by
      have h1 : (wsL (wdK 6) [who, ar] ++ (xs.take 0).map udS).map (Value.string ·) = wsI (wdK 6) [who, ar] := by simp [wsL, wsI]
      rw [h1]; exact ho.mono HBB.out.size)
    have HB2 := Lib.hid (HBB.out.trans (hb.mono HBB.out.size))
    obtain ⟨y0, y1, y2, y3, y4, y5, y6⟩ := cells7 ((hb.block _ (Array.getElem?_eq_some_iff.1 HR1.out).1).trans HR1.out)
    clear ho hb x0 x1 x2 x3 x4 x5 x6
    go_wp2_with fail
    go_loopw [4, 6, 49] (fun u _ j wr => ∃ i : Nat, j = .int .i64 i ∧ Hid (i ≤ xs.length) ∧ Hid (wr.ownsRow W.heap.size 9 1 u (3 + i) ((wsL (wdK 6) [who, ar] ++ (xs.take i).map udS).map (Value.string ·))) ∧ Hid (Below W.heap.size W wr)) (fun _ _ j _ => xs.length - (intOf j).toNat)
    case atStart => exact ⟨0, rfl, Lib.hid (Nat.zero_le _), HO2, HB2⟩
    case round =>
      obtain ⟨i, rfl, HI, HO, HB⟩ := hrel
      obtain ⟨z1, rfl⟩ : ∃ w, w = wr := ⟨_, rfl⟩
      by_cases hi : i < xs.length
      · obtain ⟨bb, off, rfl, hb, hc, u0, u1⟩ := (HRW.out.below HB.out).cell hi
        have HIL := Lib.hid hi
        have hii : (i : Int) < (xs.length : Int) := by omega
        have hi0 : (0 : Int) ≤ (i : Int) := by omega
        obtain ⟨y, hy⟩ : ∃ y, xs.getD i 0 = y := ⟨_, rfl⟩
        rw [hy] at hc u0 u1
        obtain ⟨m, rfl⟩ : ∃ m : Nat, y = m := ⟨y.toNat, by omega⟩
        have FM := Lib.hid (sc_fmt m (by omega) z1 (pow10_bel HTW.out HB.out))
        have HST := Lib.hid (show ((wsL (wdK 6) [who, ar] ++ (xs.take (i + 1)).map udS).map (Value.string ·)) = ((wsL (wdK 6) [who, ar] ++ (xs.take i).map udS).map (Value.string ·)) ++ [.string (udS (m : Int))] by
          rw [udS_at hi, hy, ← List.append_assoc, List.map_append]; rfl)
        have WK := Lib.hid (show wrap64 ((i : Int) + 1) = ((i + 1 : Nat) : Int) by have := HN.out; simp only [wrap64]; omega)
        clear hi hb hy u0 u1
        go_wp2_with fail
        refine FM.out.mono ?_
        rintro e z2 ⟨rfl, hb2⟩
        have HO3 := Lib.hid (own_below HO.out hb2)
        have HB3 := Lib.hid (HB.out.trans (hb2.mono HB.out.size))
        have hsz := HB3.out.size
        have hkn : 3 + i < 10000000 := by have h1 := HN.out; have h2 := HIL.out; omega
        clear hb2
        go_wp2_with (at_builtin; refine append_gL (T := 31) (E := 9) (sz := 1) (bys := 16) (B := W.heap.size) (n := 3 + i) (xs := (wsL (wdK 6) [who, ar] ++ (xs.take i).map udS).map (Value.string ·)) (news := [.string (udS (m : Int))]) Tryd.underlying31 info_str (by decide) (by decide) rfl _ _ rfl rfl HO3.out rfl hsz hkn rfl (by intro u hu; simp at hu; subst hu; rfl) ?_; intro v4 z4 hO4 hb4; have HO4 := Lib.hid hO4; have HB4 := Lib.hid hb4; clear hO4 hb4)
        go_roundw
        case rel => exact ⟨i + 1, by first | rw [WK.out] | simp, Lib.hid HIL.out, Lib.hid (by rw [HST.out, ← Nat.add_assoc]; exact HO4.out), Lib.hid (HB3.out.trans HB4.out)⟩
        case measure => first | exact sc_meas' xs.length i HIL.out | (rw [WK.out]; exact sc_meas xs.length i HIL.out)
      · have h9 : i = xs.length := by have := HI.out; omega
        subst h9
        have hii : ¬ (xs.length : Int) < (xs.length : Int) := by omega
        go_wp2_with fail
        go_ret
        have h := HO.out
        rw [List.take_length] at h
        have hl : 3 + xs.length = LL.length := by rw [← HLL.out]; simp [wsL]; omega
        rw [HLL.out, hl] at h
        exact ⟨_, rfl, h, HB.out⟩
  by_cases h7 : kd = 7
  · subst h7
    have e : wsC ⟨7, a, b, s, who, ar, xs⟩ = wsL (wdK 7) [who, ar] := by unfold wsC; simp
    rw [e, wsL_val]
    obtain ⟨w1, hw1, r1, hB1, hs1⟩ := boxG w0 #[.int .i64 who, .int .i64 ar] 3
    have NU := sc_numbers (wdK 7) (some ⟨w0.heap.size, 0, none⟩) 2 2 [who, ar] w1 (by rw [← hw1]; exact rowI2 w0 who ar hwho har) (by decide) (pow10_bel HT0.out hB1)
    have HBB := Lib.hid (HB0.out.trans (hB1.mono HB0.out.size))
    have NU := Lib.hid NU
    clear r1 hB1 hs1 e hwho har
    go_enter Tryd.func22, Tryd.ntmps22
    go_wp2_with fail
    refine (WD.out _).mono ?_
    rintro e w2 ⟨rfl, rfl⟩
    go_wp2_with fail
    refine NU.out.mono ?_
    rintro e w2 ⟨v, rfl, ho, hb⟩
    have HO := Lib.hid (ho.mono HBB.out.size)
    have HB2 := Lib.hid (HBB.out.trans (hb.mono HBB.out.size))
    clear ho hb
    go_wp2_with fail
    go_ret
    exact ⟨v, rfl, HO.out, HB2.out⟩
  · have e : wsC ⟨kd, a, b, s, who, ar, xs⟩ = [wdK kd] := by unfold wsC; simp only [h3, h4, h6, h7, if_false]
    rw [e]
    have e1 : (kd == 1) = false := by simp; omega
    have e2 : (kd == 2) = false := by simp; omega
    have e3 : (kd == 3) = false := by simp; omega
    have e4 : (kd == 4) = false := by simp [h4]
    have e6 : (kd == 6) = false := by simp [h6]
    have e7 : (kd == 7) = false := by simp [h7]
    have HO := Lib.hid (own_made1 w0 W.heap.size 9 (.string (wdK kd)) HB0.out.size)
    have HBF := Lib.hid (HB0.out.alloc HB0.out.size (.cells #[.string (wdK kd)] 9))
    clear e h3 h4 h6 h7
    go_enter Tryd.func22, Tryd.ntmps22
    go_wp2_with fail
    refine (WD.out _).mono ?_
    rintro e w2 ⟨rfl, rfl⟩
    go_wp2_with fail
    go_ret
    exact ⟨_, rfl, HO.out, HBF.out⟩
end Go.Proofs.YtoejflnlkapkiaaDoor
/- Reference 42's Word, Int, ints. -/
namespace Go.Proofs.YtoejflnlkapkiaaDoor
open Go.ChangeShapes Go.WideShapes Go.ChangeAt Go.RowKit
set_option linter.unusedVariables false
set_option linter.unusedSimpArgs false
theorem sg_small {n : Nat} (h : n < 10) : Lib.decDigits n = [UInt8.ofNat (48 + n)] := by rw [Lib.decDigits, dif_pos h]
theorem sg_big {n : Nat} (h : ¬ n < 10) : Lib.decDigits n = Lib.decDigits (n / 10) ++ [UInt8.ofNat (48 + n % 10)] := by rw [Lib.decDigits, dif_neg h]
theorem dec_one {n : Nat} (h : n ≤ 9) : (Lib.decDigits n).length ≤ 9 := by rw [sg_small (by omega)]; simp
def sgTen : ByteArray := ⟨#[48, 49, 50, 51, 52, 53, 54, 55, 56, 57]⟩
theorem sg_ten_at : ∀ k : Fin 10, (sgTen.extract k.val (k.val + 1)).data.toList = [UInt8.ofNat (48 + k.val)] := by decide +kernel

set_option maxRecDepth 100000 in
set_option maxHeartbeats 4000000 in
theorem r22_digit (N : Nat) (hN : N ≤ 9) (w : World) :
    Calls Tryd.prog 55 #[.int .i64 N] w fun e w' => w = w' ∧ ∃ s : ByteArray, s.data.toList = Lib.decDigits N ∧ e = .returned (.string s) := by
  go_enter Tryd.func55, Tryd.ntmps55
  go_wp2
  go_loopw [0, 3] (fun x y wi => ∃ (n : Nat) (t : ByteArray), x = .int .i64 n ∧ y = .string t ∧ n ≤ N ∧ Hid (Lib.decDigits n ++ t.data.toList = Lib.decDigits N) ∧ w = wi) (fun x _ _ => (intOf x).toNat)
  case atStart => exact ⟨N, _, rfl, rfl, Nat.le_refl _, Lib.hid (by simp), rfl⟩
  case round =>
    obtain ⟨n, t, rfl, rfl, hn, HT, rfl⟩ := hrel
    have htl : t.size ≤ 9 := by
      have h1 := dec_one hN
      rw [← HT.out, List.length_append] at h1
      have := Lib.size_eq t; omega
    by_cases h9 : 9 < n
    · have d1 : decide ((n : Int) > 9) = true := decide_eq_true (by omega)
      have d1' : decide (9 < n) = true := decide_eq_true h9
      obtain ⟨r, hr⟩ : ∃ r, n % 10 = r := ⟨_, rfl⟩
      obtain ⟨u, hu⟩ : ∃ u, n / 10 = u := ⟨_, rfl⟩
      have hr10 : r < 10 := by omega
      have hmod : ((n : Int)).tmod 10 = (r : Int) := by
        rw [Int.tmod_eq_emod_of_nonneg (by omega)]; omega
      have hmod' : ((n : Int)) % 10 = (r : Int) := by omega
      have hdiv : ((n : Int)).tdiv 10 = (u : Int) := by
        rw [Int.tdiv_eq_ediv_of_nonneg (by omega)]; omega
      have hdiv' : ((n : Int)) / 10 = (u : Int) := by omega
      have hdg := sg_ten_at ⟨r, hr10⟩
      have hsub := sub_at sgTen r (r + 1) (by omega) (by show r + 1 ≤ 10; omega)
      obtain ⟨x, hx⟩ : ∃ x, sgTen.extract r (r + 1) = x := ⟨_, rfl⟩
      have hxd : x.data.toList = [UInt8.ofNat (48 + r)] := by rw [← hx]; exact hdg
      rw [hx] at hsub
      simp only [Int.natCast_add, Int.natCast_one] at hsub
      have hxs : x.size = 1 := by rw [Lib.size_eq, hxd]; rfl
      have hadd : ∀ wx : World, (Op.stringOp .add x t).run Tryd.prog wx = .ok (.string (x ++ t)) wx := fun wx => run_string_add_sum wx _ _ (by omega)
      obtain ⟨y, hy⟩ : ∃ y, x ++ t = y := ⟨_, rfl⟩
      rw [hy] at hadd
      have HT2 : Hid (Lib.decDigits u ++ y.data.toList = Lib.decDigits N) := Lib.hid (by
        rw [← hy, ByteArray.data_append, Array.toList_append, hxd, ← HT.out, sg_big (n := n) (by omega), hr, hu, List.append_assoc])
      have hun : u < n := by omega
      unfold sgTen at hsub
      clear HT hr hu hdg hx hxd hxs hy
      go_wp2
      go_roundw
      case rel => exact ⟨u, _, rfl, rfl, by omega, HT2, by first | rfl | trivial⟩
      case measure => (first | (simp [intOf]; done) | (simp [intOf]; omega) | (simp only [intOf]; omega))
    · have d1 : decide ((n : Int) > 9) = false := decide_eq_false (by omega)
      have d1' : decide (9 < n) = false := decide_eq_false h9
      have hdg := sg_ten_at ⟨n, by omega⟩
      have hsub := sub_at sgTen n (n + 1) (by omega) (by show n + 1 ≤ 10; omega)
      obtain ⟨x, hx⟩ : ∃ x, sgTen.extract n (n + 1) = x := ⟨_, rfl⟩
      have hxd : x.data.toList = [UInt8.ofNat (48 + n)] := by rw [← hx]; exact hdg
      rw [hx] at hsub
      simp only [Int.natCast_add, Int.natCast_one] at hsub
      have hxs : x.size = 1 := by rw [Lib.size_eq, hxd]; rfl
      have hadd : ∀ wx : World, (Op.stringOp .add x t).run Tryd.prog wx = .ok (.string (x ++ t)) wx := fun wx => run_string_add_sum wx _ _ (by omega)
      obtain ⟨y, hy⟩ : ∃ y, x ++ t = y := ⟨_, rfl⟩
      rw [hy] at hadd
      have HT2 : Hid (y.data.toList = Lib.decDigits N) := Lib.hid (by
        rw [← hy, ByteArray.data_append, Array.toList_append, hxd, ← HT.out, sg_small (n := n) (by omega)])
      unfold sgTen at hsub
      clear HT hdg hx hxd hxs hy
      go_wp2
      go_ret
      exact ⟨rfl, _, HT2.out, rfl⟩


theorem dec_len20 {n : Nat} (h : n < 18446744073709551616) : (Lib.decDigits n).length ≤ 20 := by
  have aux : ∀ k n : Nat, n < 10 ^ (k + 1) → (Lib.decDigits n).length ≤ k + 1 := by
    intro k
    induction k with
    | zero => intro n hn; rw [sg_small (by omega)]; simp
    | succ k ih =>
      intro n hn
      by_cases h : n < 10
      · rw [sg_small h]; simp
      · rw [sg_big h, List.length_append]
        have := ih (n / 10) (by rw [Nat.pow_succ] at hn; omega)
        simp; omega
  exact aux 19 n (Nat.lt_of_lt_of_le h (by decide))
set_option maxRecDepth 100000 in
set_option maxHeartbeats 4000000 in
theorem r42_word (N : Nat) (hN : N < 18446744073709551616) (w : World) :
    Calls Tryd.prog 44 #[.int .u64 (N : Int)] w fun e w' => w = w' ∧ ∃ s : ByteArray, s.data.toList = Lib.decDigits N ∧ e = .returned (.string s) := by
  have HL := Lib.hid (dec_len20 hN)
  have HN := Lib.hid hN
  clear hN
  go_enter Tryd.func44, Tryd.ntmps44
  go_wp2_with fail
  go_loopw [0, 3] (fun x y wi => ∃ (n : Nat) (t : ByteArray), x = .int .u64 n ∧ y = .string t ∧ Hid (n ≤ N) ∧ Hid (Lib.decDigits n ++ t.data.toList = Lib.decDigits N) ∧ w = wi) (fun x _ _ => (intOf x).toNat)
  case atStart => exact ⟨N, _, rfl, rfl, Lib.hid (Nat.le_refl _), Lib.hid (by simp), rfl⟩
  case round =>
    obtain ⟨n, t, rfl, rfl, HNN, HT, rfl⟩ := hrel
    have htl : t.size ≤ 20 := by
      have h1 := HL.out
      rw [← HT.out, List.length_append] at h1
      have := Lib.size_eq t; omega
    have hn64 : n < 18446744073709551616 := Nat.lt_of_le_of_lt HNN.out HN.out
    by_cases h9 : 9 < n
    · have d1 : decide ((n : Int) > 9) = true := decide_eq_true (by omega)
      have d1' : decide (9 < n) = true := decide_eq_true h9
      have d1i : decide ((9 : Int) < (n : Int)) = true := decide_eq_true (by omega)
      obtain ⟨r, hr⟩ : ∃ r, n % 10 = r := ⟨_, rfl⟩
      obtain ⟨u, hu⟩ : ∃ u, n / 10 = u := ⟨_, rfl⟩
      have hr10 : r < 10 := by omega
      have hmod : ((n : Int)).tmod 10 = (r : Int) := by
        rw [Int.tmod_eq_emod_of_nonneg (by omega)]; omega
      have hmod' : ((n : Int)) % 10 = (r : Int) := by omega
      have hdiv : ((n : Int)).tdiv 10 = (u : Int) := by
        rw [Int.tdiv_eq_ediv_of_nonneg (by omega)]; omega
      have hdiv' : ((n : Int)) / 10 = (u : Int) := by omega
      have hun : u < n := by omega
      have WR := Lib.hid (show wrap64 (r : Int) = (r : Int) by simp only [wrap64]; omega)
      have DG := Lib.hid (r22_digit r (by omega) w)
      have HST := Lib.hid (show Lib.decDigits n = Lib.decDigits u ++ Lib.decDigits r by rw [sg_big (n := n) (by omega), hr, hu, sg_small hr10])
      have HR1 := Lib.hid (show (Lib.decDigits r).length = 1 by rw [sg_small hr10]; rfl)
      have HUN := Lib.hid hun
      clear hr hu hr10 hun
      go_wp2_with fail
      refine DG.out.mono ?_
      rintro e w1 ⟨rfl, sd, hsd, rfl⟩
      have hxs : sd.size = 1 := by rw [Lib.size_eq, hsd]; exact HR1.out
      have hadd : ∀ wx : World, (Op.stringOp .add sd t).run Tryd.prog wx = .ok (.string (sd ++ t)) wx := fun wx => run_string_add_sum wx _ _ (by omega)
      obtain ⟨y, hy⟩ : ∃ y, sd ++ t = y := ⟨_, rfl⟩
      rw [hy] at hadd
      have HT2 : Hid (Lib.decDigits u ++ y.data.toList = Lib.decDigits N) := Lib.hid (by
        rw [← hy, ByteArray.data_append, Array.toList_append, hsd, ← HT.out, HST.out, List.append_assoc])
      clear hsd hxs hy
      go_wp2_with fail
      go_roundw
      case rel => exact ⟨u, _, rfl, rfl, Lib.hid (by have h1 := HNN.out; have h2 := HUN.out; omega), HT2, by first | rfl | trivial⟩
      case measure => have h2 := HUN.out; simp only [intOf]; omega
    · have d1 : decide ((n : Int) > 9) = false := decide_eq_false (by omega)
      have d1' : decide (9 < n) = false := decide_eq_false h9
      have d1i : decide ((9 : Int) < (n : Int)) = false := decide_eq_false (by omega)
      have DG := Lib.hid (r22_digit n (by omega) w)
      have HL1 := Lib.hid (show (Lib.decDigits n).length = 1 by rw [sg_small (by omega)]; rfl)
      have hnb : n ≤ 9 := by omega
      clear h9
      go_wp2_with fail
      refine DG.out.mono ?_
      rintro e w1 ⟨rfl, sd, hsd, rfl⟩
      have hxs : sd.size = 1 := by rw [Lib.size_eq, hsd]; exact HL1.out
      have hadd : ∀ wx : World, (Op.stringOp .add sd t).run Tryd.prog wx = .ok (.string (sd ++ t)) wx := fun wx => run_string_add_sum wx _ _ (by omega)
      obtain ⟨y, hy⟩ : ∃ y, sd ++ t = y := ⟨_, rfl⟩
      rw [hy] at hadd
      have HT2 := Lib.hid (show y.data.toList = Lib.decDigits N by
        rw [← hy, ByteArray.data_append, Array.toList_append, hsd, ← HT.out])
      clear hsd hxs hy
      go_wp2_with fail
      go_ret
      exact ⟨rfl, y, HT2.out, rfl⟩
theorem itoa_len {z : Int} (h : i64r z) : (Lib.itoa z).length ≤ 21 := by
  by_cases hz : z < 0
  · obtain ⟨u, rfl⟩ : ∃ u : Nat, z = -(u : Int) := ⟨z.natAbs, by omega⟩
    have h1 := h.1
    rw [Lib.itoa_neg u (by omega)]
    have := dec_len20 (n := u) (by omega)
    simp; omega
  · obtain ⟨u, rfl⟩ : ∃ u : Nat, z = (u : Int) := ⟨z.toNat, by omega⟩
    have h2 := h.2
    rw [Lib.itoa_nonneg]
    have := dec_len20 (n := u) (by omega)
    omega
set_option maxRecDepth 100000 in
set_option maxHeartbeats 4000000 in
theorem r42_int (z : Int) (h : i64r z) (w : World) :
    Calls Tryd.prog 41 #[.int .i64 z] w fun e w' => w = w' ∧ e = .returned (.string (itS z)) := by
  obtain ⟨hz0, hz1⟩ := h
  by_cases hz : z < 0
  · obtain ⟨u, hu⟩ : ∃ u : Nat, -z = u := ⟨z.natAbs, by omega⟩
    have WD := Lib.hid (r42_word u (by omega) w)
    have HIT := Lib.hid (show Lib.itoa z = 45 :: Lib.decDigits u by rw [show z = -(u : Int) by omega]; exact Lib.itoa_neg u (by omega))
    have HDL := Lib.hid (dec_len20 (n := u) (by omega))
    have d1 : decide (z < 0) = true := decide_eq_true hz
    have hu1 : -(z + 1) + 1 = (u : Int) := by omega
    go_enter Tryd.func41, Tryd.ntmps41
    go_wp2_with fail
    refine WD.out.mono ?_
    rintro e w1 ⟨rfl, sd, hsd, rfl⟩
    have hxs : sd.size ≤ 20 := by rw [Lib.size_eq, hsd]; exact HDL.out
    have hadd : ∀ wx : World, (Op.stringOp .add ⟨#[45]⟩ sd).run Tryd.prog wx = .ok (.string ((⟨#[45]⟩ : ByteArray) ++ sd)) wx := fun wx => run_string_add_sum wx _ _ (by show 1 + sd.size ≤ _; omega)
    have HY := Lib.hid (show (⟨#[45]⟩ : ByteArray) ++ sd = itS z by
      apply ByteArray.ext
      apply Array.toList_inj.1
      rw [ByteArray.data_append, Array.toList_append, hsd]
      unfold itS
      rw [HIT.out]
      rfl)
    rw [HY.out] at hadd
    clear hsd hxs
    go_wp2_with fail
    go_ret
    exact ⟨rfl, rfl⟩
  · obtain ⟨u, rfl⟩ : ∃ u : Nat, z = u := ⟨z.toNat, by omega⟩
    have WD := Lib.hid (r42_word u (by omega) w)
    have HIT := Lib.hid (Lib.itoa_nonneg u)
    have d1 : decide ((u : Int) < 0) = false := decide_eq_false hz
    have d1' : decide (u < 0) = false := decide_eq_false (by omega)
    go_enter Tryd.func41, Tryd.ntmps41
    go_wp2_with fail
    refine WD.out.mono ?_
    rintro e w1 ⟨rfl, sd, hsd, rfl⟩
    have HY := Lib.hid (show sd = itS (u : Int) by
      apply ByteArray.ext
      apply Array.toList_inj.1
      rw [hsd]
      unfold itS
      rw [HIT.out])
    clear hsd
    go_wp2_with fail
    go_ret
    exact ⟨rfl, by rw [← HY.out]; rfl⟩
theorem ba_ofList (l : List UInt8) : (⟨l.toArray⟩ : ByteArray).data.toList = l := rfl
theorem ba_ext2 {a b : ByteArray} (h : a.data.toList = b.data.toList) : a = b := ByteArray.ext (Array.toList_inj.1 h)
/-- The text of a word and numbers. -/
def intsT (f : ByteArray) (xs : List Int) : List UInt8 := Lib.join ((wsL f xs).map (·.data.toList)) [32]
theorem intsT_nil (f : ByteArray) : intsT f [] = f.data.toList := by unfold intsT wsL; simp [Lib.join_one]
theorem intsT_eq (f : ByteArray) (xs : List Int) : intsT f xs = f.data.toList ++ Lib.joinTail [32] (xs.map Lib.itoa) := by
  unfold intsT wsL
  rw [List.map_cons, Lib.join_cons, List.map_map]
  rfl
theorem intsT_step {f : ByteArray} {xs : List Int} {k : Nat} (h : k < xs.length) : intsT f (xs.take (k + 1)) = intsT f (xs.take k) ++ (32 :: Lib.itoa (xs.getD k 0)) := by
  have h1 : (xs.map Lib.itoa)[k]? = some (Lib.itoa (xs.getD k 0)) := by
    rw [List.getElem?_map, List.getD_eq_getElem?_getD, List.getElem?_eq_getElem h]; rfl
  rw [intsT_eq, intsT_eq, List.map_take, List.map_take, Lib.joinTail_take_succ _ _ _ _ h1]
  simp
theorem intsT_len {f : ByteArray} {xs : List Int} (hw : ∀ k, k < xs.length → i64r (xs.getD k 0)) : ∀ k, k ≤ xs.length → (intsT f (xs.take k)).length ≤ f.size + 22 * k
  | 0, _ => by rw [List.take_zero, intsT_nil, Lib.size_eq]; omega
  | k + 1, h => by
    have h1 := intsT_len (f := f) hw k (by omega)
    have h2 := itoa_len (hw k (by omega))
    rw [intsT_step (by omega), List.length_append, List.length_cons]
    omega
set_option maxRecDepth 100000 in
set_option maxHeartbeats 4000000 in
theorem r42_ints (f : ByteArray) (p : Option Addr) (n c : Nat) (xs : List Int) (W : World) (h : RowI W p n xs) (hn : n ≤ 5000000) (hf : f.size ≤ 1000) :
    Calls Tryd.prog 25 #[.string f, .slice p n c] W fun e w' => ∃ s : ByteArray, s.data.toList = intsT f xs ∧ e = .returned (.string s) ∧ Below W.heap.size W w' := by
  have HR := Lib.hid h
  have HN := Lib.hid hn
  have HL := Lib.hid h.len
  have HF := Lib.hid hf
  have HBD := Lib.hid (show ∀ k, k < xs.length → i64r (xs.getD k 0) from fun k hk => h.bd (by rw [← h.len]; exact hk))
  clear h hn hf
  go_enter Tryd.func25, Tryd.ntmps25
  go_wp2_with fail
  go_loopw [0, 5] (fun y j wr => ∃ (k : Nat) (t : ByteArray), y = .string t ∧ j = .int .i64 k ∧ Hid (k ≤ n) ∧ Hid (t.data.toList = intsT f (xs.take k)) ∧ Hid (Below W.heap.size W wr)) (fun _ j _ => n - (intOf j).toNat)
  case atStart => exact ⟨0, f, rfl, rfl, Lib.hid (Nat.zero_le _), Lib.hid (by rw [List.take_zero, intsT_nil]), Lib.hid (Below.refl _ _)⟩
  case round =>
    obtain ⟨k, t, rfl, rfl, HK, HT, HB⟩ := hrel
    obtain ⟨x1, rfl⟩ : ∃ w, w = wr := ⟨_, rfl⟩
    by_cases hk : k < n
    · obtain ⟨b, off, rfl, hb, hc, x0, x1'⟩ := (HR.out.below HB.out).cell hk
      have HKL := Lib.hid hk
      have hkk : (k : Int) < (n : Int) := by omega
      have hk0 : (0 : Int) ≤ (k : Int) := by omega
      have hkx : k < xs.length := by rw [HL.out]; exact hk
      have HST := Lib.hid (intsT_step (f := f) hkx)
      have hil := itoa_len (HBD.out k hkx)
      obtain ⟨z, hz⟩ : ∃ z, xs.getD k 0 = z := ⟨_, rfl⟩
      rw [hz] at hc x0 x1' HST hil
      have IT := Lib.hid (r42_int z ⟨x0, x1'⟩ x1)
      have htl : t.size ≤ 1000 + 22 * 5000000 := by
        have h1 := intsT_len (f := f) HBD.out k (Nat.le_of_lt hkx)
        have h2 := HN.out
        have h3 := HF.out
        rw [Lib.size_eq, HT.out]; omega
      have WK := Lib.hid (show wrap64 ((k : Int) + 1) = ((k + 1 : Nat) : Int) by have := HN.out; simp only [wrap64]; omega)
      have hadd1 : ∀ wx : World, (Op.stringOp .add t ⟨#[32]⟩).run Tryd.prog wx = .ok (.string (t ++ ⟨#[32]⟩)) wx := fun wx => run_string_add_sum wx _ _ (by show t.size + 1 ≤ _; omega)
      obtain ⟨t1, ht1⟩ : ∃ t1, t ++ (⟨#[32]⟩ : ByteArray) = t1 := ⟨_, rfl⟩
      have hts : t1.data.toList = t.data.toList ++ [32] := by rw [← ht1, ByteArray.data_append, Array.toList_append]
      have hts1 : t1.size = t.size + 1 := by rw [Lib.size_eq, hts, List.length_append, ← Lib.size_eq]; rfl
      have his : (itS z).size ≤ 21 := by rw [Lib.size_eq]; exact hil
      rw [ht1] at hadd1
      have hadd2 : ∀ wx : World, (Op.stringOp .add t1 (itS z)).run Tryd.prog wx = .ok (.string (t1 ++ itS z)) wx := fun wx => run_string_add_sum wx _ _ (by omega)
      obtain ⟨t2, ht2⟩ : ∃ t2, t1 ++ itS z = t2 := ⟨_, rfl⟩
      rw [ht2] at hadd2
      have HT2 := Lib.hid (show t2.data.toList = intsT f (xs.take (k + 1)) by
        rw [HST.out, ← HT.out, ← ht2, ByteArray.data_append, Array.toList_append, hts, List.append_assoc]; rfl)
      clear hk hb hz x0 x1' hkx hil htl ht1 hts hts1 his ht2
      go_wp2_with fail
      refine IT.out.mono ?_
      rintro e x2 ⟨rfl, rfl⟩
      go_wp2_with fail
      go_roundw
      case rel => exact ⟨k + 1, t2, rfl, by first | rw [WK.out] | simp, Lib.hid HKL.out, HT2, HB⟩
      case measure => first | exact sc_meas' n k HKL.out | (rw [WK.out]; exact sc_meas n k HKL.out)
    · have h9 : k = n := by have := HK.out; omega
      subst h9
      have hkk : ¬ (k : Int) < (k : Int) := by omega
      have HT2 := Lib.hid (show t.data.toList = intsT f xs by
        have h := HT.out
        rwa [List.take_of_length_le (by rw [HL.out]; exact Nat.le_refl _)] at h)
      go_wp2_with fail
      go_ret
      exact ⟨t, HT2.out, rfl, HB.out⟩
end Go.Proofs.YtoejflnlkapkiaaDoor
/- The library's contracts at this program (this seat alone: its numbers; written by gensheld.py). -/
namespace Go.Proofs.YtoejflnlkapkiaaDoor
open Go.Shelf Go.ChangeShapes Go.WideShapes Go.ChangeAt Go.RowKit
def laysC172_ren : Go.Shelf.Ren := ⟨fun | 172 => 58 | 244 => 73 | 245 => 74 | 247 => 88 | 279 => 89 | 280 => 90 | 281 => 91 | 282 => 92 | 287 => 94 | 316 => 103 | 171 => 38 | 205 => 104 | 321 => 106 | 322 => 107 | 243 => 53 | 246 => 66 | 283 => 67 | 284 => 68 | 285 => 69 | 286 => 70 | 129 => 80 | 317 => 79 | 318 => 81 | 319 => 82 | 320 => 83 | 337 => 95 | 338 => 96 | n => n, fun | 9 => 9 | 3 => 3 | 75 => 81 | 76 => 82 | 4 => 4 | 5 => 5 | 167 => 134 | 37 => 53 | 0 => 0 | 85 => 135 | 2 => 2 | 168 => 137 | 53 => 78 | 175 => 121 | 46 => 98 | 210 => 145 | 127 => 88 | 145 => 154 | 143 => 152 | 21 => 21 | 171 => 113 | 173 => 116 | 212 => 127 | 51 => 128 | 20 => 20 | 213 => 129 | 232 => 148 | 233 => 149 | 80 => 64 | n => n, fun | 15 => 2 | 16 => 3 | 17 => 0 | 18 => 4 | 19 => 5 | n => n⟩
theorem laysC172 : Go.Proofs.LaysC.n172 Tryd.prog laysC172_ren := {
  mixed := by kernel_rfl
  f129 := Tryd.func80.trans (congrArg some (by kernel_rfl))
  f171 := Tryd.func38.trans (congrArg some (by kernel_rfl))
  f172 := Tryd.func58.trans (congrArg some (by kernel_rfl))
  f205 := Tryd.func104.trans (congrArg some (by kernel_rfl))
  f243 := Tryd.func53.trans (congrArg some (by kernel_rfl))
  f244 := Tryd.func73.trans (congrArg some (by kernel_rfl))
  f245 := Tryd.func74.trans (congrArg some (by kernel_rfl))
  f246 := Tryd.func66.trans (congrArg some (by kernel_rfl))
  f247 := Tryd.func88.trans (congrArg some (by kernel_rfl))
  f279 := Tryd.func89.trans (congrArg some (by kernel_rfl))
  f280 := Tryd.func90.trans (congrArg some (by kernel_rfl))
  f281 := Tryd.func91.trans (congrArg some (by kernel_rfl))
  f282 := Tryd.func92.trans (congrArg some (by kernel_rfl))
  f283 := Tryd.func67.trans (congrArg some (by kernel_rfl))
  f284 := Tryd.func68.trans (congrArg some (by kernel_rfl))
  f285 := Tryd.func69.trans (congrArg some (by kernel_rfl))
  f286 := Tryd.func70.trans (congrArg some (by kernel_rfl))
  f287 := Tryd.func94.trans (congrArg some (by kernel_rfl))
  f316 := Tryd.func103.trans (congrArg some (by kernel_rfl))
  f317 := Tryd.func79.trans (congrArg some (by kernel_rfl))
  f318 := Tryd.func81.trans (congrArg some (by kernel_rfl))
  f319 := Tryd.func82.trans (congrArg some (by kernel_rfl))
  f320 := Tryd.func83.trans (congrArg some (by kernel_rfl))
  f321 := Tryd.func106.trans (congrArg some (by kernel_rfl))
  f322 := Tryd.func107.trans (congrArg some (by kernel_rfl))
  f337 := Tryd.func95.trans (congrArg some (by kernel_rfl))
  f338 := Tryd.func96.trans (congrArg some (by kernel_rfl))
  t0 := Tryd.underlying0
  a0 := Tryd.isAgg0
  z0 := Tryd.sizeOf0
  v0 := Tryd.zeroValue0
  t2 := Tryd.underlying2
  a2 := Tryd.isAgg2
  z2 := Tryd.sizeOf2
  v2 := Tryd.zeroValue2
  t3 := Tryd.underlying3
  a3 := Tryd.isAgg3
  z3 := Tryd.sizeOf3
  v3 := Tryd.zeroValue3
  t4 := Tryd.underlying4
  a4 := Tryd.isAgg4
  z4 := Tryd.sizeOf4
  v4 := Tryd.zeroValue4
  t5 := Tryd.underlying5
  a5 := Tryd.isAgg5
  z5 := Tryd.sizeOf5
  v5 := Tryd.zeroValue5
  t9 := Tryd.underlying9
  a9 := Tryd.isAgg9
  z9 := Tryd.sizeOf9
  v9 := Tryd.zeroValue9
  t20 := Tryd.underlying20
  a20 := Tryd.isAgg20
  z20 := Tryd.sizeOf20
  v20 := Tryd.zeroValue20
  t21 := Tryd.underlying21
  a21 := Tryd.isAgg21
  z21 := Tryd.sizeOf21
  v21 := Tryd.zeroValue21
  t37 := Tryd.underlying53
  a37 := Tryd.isAgg53
  z37 := Tryd.sizeOf53
  v37 := Tryd.zeroValue53
  t46 := Tryd.underlying98
  a46 := Tryd.isAgg98
  z46 := Tryd.sizeOf98
  v46 := Tryd.zeroValue98
  t51 := Tryd.underlying128
  a51 := Tryd.isAgg128
  z51 := Tryd.sizeOf128
  v51 := Tryd.zeroValue128
  t53 := Tryd.underlying78
  a53 := Tryd.isAgg78
  z53 := Tryd.sizeOf78
  v53 := Tryd.zeroValue78
  t75 := Tryd.underlying81
  a75 := Tryd.isAgg81
  z75 := Tryd.sizeOf81
  v75 := Tryd.zeroValue81
  t76 := Tryd.underlying82
  a76 := Tryd.isAgg82
  z76 := Tryd.sizeOf82
  v76 := Tryd.zeroValue82
  t85 := Tryd.underlying135
  a85 := Tryd.isAgg135
  z85 := Tryd.sizeOf135
  v85 := Tryd.zeroValue135
  t127 := Tryd.underlying88
  a127 := Tryd.isAgg88
  z127 := Tryd.sizeOf88
  v127 := Tryd.zeroValue88
  t143 := Tryd.underlying152
  a143 := Tryd.isAgg152
  z143 := Tryd.sizeOf152
  v143 := Tryd.zeroValue152
  t145 := Tryd.underlying154
  a145 := Tryd.isAgg154
  z145 := Tryd.sizeOf154
  v145 := Tryd.zeroValue154
  t167 := Tryd.underlying134
  a167 := Tryd.isAgg134
  z167 := Tryd.sizeOf134
  v167 := Tryd.zeroValue134
  t168 := Tryd.underlying137
  a168 := Tryd.isAgg137
  z168 := Tryd.sizeOf137
  v168 := Tryd.zeroValue137
  t171 := Tryd.underlying113
  a171 := Tryd.isAgg113
  z171 := Tryd.sizeOf113
  v171 := Tryd.zeroValue113
  t173 := Tryd.underlying116
  a173 := Tryd.isAgg116
  z173 := Tryd.sizeOf116
  v173 := Tryd.zeroValue116
  t175 := Tryd.underlying121
  a175 := Tryd.isAgg121
  z175 := Tryd.sizeOf121
  v175 := Tryd.zeroValue121
  t210 := Tryd.underlying145
  a210 := Tryd.isAgg145
  z210 := Tryd.sizeOf145
  v210 := Tryd.zeroValue145
  t212 := Tryd.underlying127
  a212 := Tryd.isAgg127
  z212 := Tryd.sizeOf127
  v212 := Tryd.zeroValue127
  t213 := Tryd.underlying129
  a213 := Tryd.isAgg129
  z213 := Tryd.sizeOf129
  t232 := Tryd.underlying148
  a232 := Tryd.isAgg148
  z232 := Tryd.sizeOf148
  v232 := Tryd.zeroValue148
  t233 := Tryd.underlying149
  a233 := Tryd.isAgg149
  z233 := Tryd.sizeOf149
  v233 := Tryd.zeroValue149
  g15 := by kernel_rfl
  g16 := by kernel_rfl
  g17 := by kernel_rfl
  g18 := by kernel_rfl
  g19 := by kernel_rfl
  t80 := Tryd.underlying64
  a80 := Tryd.isAgg64
  z80 := Tryd.sizeOf64
  v80 := Tryd.zeroValue64
  i0 := by kernel_rfl
  i2 := by kernel_rfl
  i3 := by kernel_rfl
  i4 := by kernel_rfl
  i5 := by kernel_rfl
  i9 := by kernel_rfl
  i20 := by kernel_rfl
  i21 := by kernel_rfl
  i37 := by kernel_rfl
  i46 := by kernel_rfl
  i51 := by kernel_rfl
  i53 := by kernel_rfl
  i75 := by kernel_rfl
  i76 := by kernel_rfl
  i80 := by kernel_rfl
  i85 := by kernel_rfl
  i127 := by kernel_rfl
  i143 := by kernel_rfl
  i145 := by kernel_rfl
  i167 := by kernel_rfl
  i168 := by kernel_rfl
  i171 := by kernel_rfl
  i173 := by kernel_rfl
  i175 := by kernel_rfl
  i210 := by kernel_rfl
  i212 := by kernel_rfl
  i232 := by kernel_rfl
  i233 := by kernel_rfl
  m15 := by kernel_rfl
  m16 := by kernel_rfl
  m17 := by kernel_rfl
  m18 := by kernel_rfl
  m19 := by kernel_rfl
  c0 := by kernel_rfl
  c2 := by kernel_rfl
  c3 := by kernel_rfl
  c4 := by kernel_rfl
  c5 := by kernel_rfl
  c9 := by kernel_rfl
  c20 := by kernel_rfl
  c21 := by kernel_rfl
  c37 := by kernel_rfl
  c46 := by kernel_rfl
  c51 := by kernel_rfl
  c53 := by kernel_rfl
  c75 := by kernel_rfl
  c76 := by kernel_rfl
  c80 := by kernel_rfl
  c85 := by kernel_rfl
  c127 := by kernel_rfl
  c143 := by kernel_rfl
  c145 := by kernel_rfl
  c167 := by kernel_rfl
  c168 := by kernel_rfl
  c171 := by kernel_rfl
  c173 := by kernel_rfl
  c175 := by kernel_rfl
  c210 := by kernel_rfl
  c212 := by kernel_rfl
  c213 := by kernel_rfl
  c232 := by kernel_rfl
  c233 := by kernel_rfl }
open Go.RowKit in
theorem c_Atoi_ok (s : ByteArray) (hmax : s.size ≤ 9223372036854775806) (v : Int) (h : Lib.atoiAll s.data.toList = .ok v) (w : World) :
    Calls Tryd.prog 58 #[.string s] w fun e w' => e = .returned (.tuple #[.int .i64 v, .nilIface]) ∧ (w' = w ∨ ∃ t, w' = Lib.bytesWorld w 5 t) := Any.strconv_Atoi_ok laysC172 s hmax v h w
open Go.RowKit in
theorem c_Atoi_syntax (s : ByteArray) (hlim : s.size ≤ 281474976710656) (h : Lib.atoiAll s.data.toList = Lib.atoiAll []) (ev : Value) (w : World) (hv : w.cell? ⟨2, 0, none⟩ = some ev) (hev : ev = .nilIface ∨ ∃ te pe, ev = .iface te pe) :
    Calls Tryd.prog 58 #[.string s] w fun e w' => ∃ N, e = .returned (.tuple #[.int .i64 (0), .iface 137 (.pointer (some ⟨N, 0, none⟩))]) ∧ w.heap.size ≤ N ∧ w'.heap[N]? = some (.cells #[.string ⟨#[65, 116, 111, 105]⟩, .string s, ev] 145 (0, 0)) ∧ Below w.heap.size w w' := Any.strconv_Atoi_syntax laysC172 s hlim (h.trans rfl) ev w hv hev
open Go.RowKit in
theorem c_Atoi_range (s : ByteArray) (hlim : s.size ≤ 281474976710656) (h : Lib.atoiAll s.data.toList = .range) (ev : Value) (w : World) (hv : w.cell? ⟨3, 0, none⟩ = some ev) (hev : ev = .nilIface ∨ ∃ te pe, ev = .iface te pe) :
    Calls Tryd.prog 58 #[.string s] w fun e w' => ∃ N, e = .returned (.tuple #[.int .i64 (Lib.atoiSat s.data.toList), .iface 137 (.pointer (some ⟨N, 0, none⟩))]) ∧ w.heap.size ≤ N ∧ w'.heap[N]? = some (.cells #[.string ⟨#[65, 116, 111, 105]⟩, .string s, ev] 145 (0, 0)) ∧ Below w.heap.size w w' := Any.strconv_Atoi_range laysC172 s hlim h ev w hv hev
def laysPu14_ren : Go.Shelf.Ren := ⟨fun | 14 => 76 | 16 => 94 | 17 => 74 | 19 => 106 | 20 => 107 | 21 => 89 | 22 => 90 | 23 => 91 | 24 => 92 | 25 => 103 | 27 => 38 | 26 => 104 | 28 => 53 | 29 => 66 | 30 => 67 | 31 => 68 | 32 => 69 | 33 => 70 | 35 => 80 | 34 => 79 | 36 => 81 | 37 => 82 | 38 => 83 | 39 => 95 | 40 => 96 | n => n, fun | 9 => 9 | 3 => 3 | 22 => 78 | 24 => 81 | 25 => 121 | 4 => 4 | 34 => 134 | 5 => 5 | 36 => 98 | 37 => 53 | 0 => 0 | 39 => 137 | 21 => 21 | 44 => 145 | 47 => 88 | 50 => 154 | 48 => 152 | 2 => 2 | 52 => 113 | 55 => 116 | 59 => 127 | 60 => 128 | 20 => 20 | 61 => 129 | 65 => 148 | 66 => 149 | 67 => 64 | n => n, fun | 0 => 2 | 1 => 3 | 2 => 0 | 3 => 4 | 4 => 5 | n => n⟩
theorem laysPu14 : Go.Proofs.LaysPu.n14 Tryd.prog laysPu14_ren := {
  mixed := by kernel_rfl
  f14 := Tryd.func76.trans (congrArg some (by kernel_rfl))
  f16 := Tryd.func94.trans (congrArg some (by kernel_rfl))
  f17 := Tryd.func74.trans (congrArg some (by kernel_rfl))
  f19 := Tryd.func106.trans (congrArg some (by kernel_rfl))
  f20 := Tryd.func107.trans (congrArg some (by kernel_rfl))
  f21 := Tryd.func89.trans (congrArg some (by kernel_rfl))
  f22 := Tryd.func90.trans (congrArg some (by kernel_rfl))
  f23 := Tryd.func91.trans (congrArg some (by kernel_rfl))
  f24 := Tryd.func92.trans (congrArg some (by kernel_rfl))
  f25 := Tryd.func103.trans (congrArg some (by kernel_rfl))
  f26 := Tryd.func104.trans (congrArg some (by kernel_rfl))
  f27 := Tryd.func38.trans (congrArg some (by kernel_rfl))
  f28 := Tryd.func53.trans (congrArg some (by kernel_rfl))
  f29 := Tryd.func66.trans (congrArg some (by kernel_rfl))
  f30 := Tryd.func67.trans (congrArg some (by kernel_rfl))
  f31 := Tryd.func68.trans (congrArg some (by kernel_rfl))
  f32 := Tryd.func69.trans (congrArg some (by kernel_rfl))
  f33 := Tryd.func70.trans (congrArg some (by kernel_rfl))
  f34 := Tryd.func79.trans (congrArg some (by kernel_rfl))
  f35 := Tryd.func80.trans (congrArg some (by kernel_rfl))
  f36 := Tryd.func81.trans (congrArg some (by kernel_rfl))
  f37 := Tryd.func82.trans (congrArg some (by kernel_rfl))
  f38 := Tryd.func83.trans (congrArg some (by kernel_rfl))
  f39 := Tryd.func95.trans (congrArg some (by kernel_rfl))
  f40 := Tryd.func96.trans (congrArg some (by kernel_rfl))
  t0 := Tryd.underlying0
  a0 := Tryd.isAgg0
  z0 := Tryd.sizeOf0
  v0 := Tryd.zeroValue0
  i0 := by kernel_rfl
  t2 := Tryd.underlying2
  a2 := Tryd.isAgg2
  z2 := Tryd.sizeOf2
  v2 := Tryd.zeroValue2
  i2 := by kernel_rfl
  t3 := Tryd.underlying3
  a3 := Tryd.isAgg3
  z3 := Tryd.sizeOf3
  v3 := Tryd.zeroValue3
  i3 := by kernel_rfl
  t4 := Tryd.underlying4
  a4 := Tryd.isAgg4
  z4 := Tryd.sizeOf4
  v4 := Tryd.zeroValue4
  i4 := by kernel_rfl
  t5 := Tryd.underlying5
  a5 := Tryd.isAgg5
  z5 := Tryd.sizeOf5
  v5 := Tryd.zeroValue5
  i5 := by kernel_rfl
  t9 := Tryd.underlying9
  a9 := Tryd.isAgg9
  z9 := Tryd.sizeOf9
  v9 := Tryd.zeroValue9
  i9 := by kernel_rfl
  t20 := Tryd.underlying20
  a20 := Tryd.isAgg20
  z20 := Tryd.sizeOf20
  v20 := Tryd.zeroValue20
  i20 := by kernel_rfl
  t21 := Tryd.underlying21
  a21 := Tryd.isAgg21
  z21 := Tryd.sizeOf21
  v21 := Tryd.zeroValue21
  i21 := by kernel_rfl
  t22 := Tryd.underlying78
  a22 := Tryd.isAgg78
  z22 := Tryd.sizeOf78
  v22 := Tryd.zeroValue78
  i22 := by kernel_rfl
  t24 := Tryd.underlying81
  a24 := Tryd.isAgg81
  z24 := Tryd.sizeOf81
  v24 := Tryd.zeroValue81
  i24 := by kernel_rfl
  t25 := Tryd.underlying121
  a25 := Tryd.isAgg121
  z25 := Tryd.sizeOf121
  v25 := Tryd.zeroValue121
  i25 := by kernel_rfl
  t34 := Tryd.underlying134
  a34 := Tryd.isAgg134
  z34 := Tryd.sizeOf134
  v34 := Tryd.zeroValue134
  i34 := by kernel_rfl
  c34 := by kernel_rfl
  t36 := Tryd.underlying98
  a36 := Tryd.isAgg98
  z36 := Tryd.sizeOf98
  v36 := Tryd.zeroValue98
  i36 := by kernel_rfl
  t37 := Tryd.underlying53
  a37 := Tryd.isAgg53
  z37 := Tryd.sizeOf53
  v37 := Tryd.zeroValue53
  i37 := by kernel_rfl
  t39 := Tryd.underlying137
  a39 := Tryd.isAgg137
  z39 := Tryd.sizeOf137
  v39 := Tryd.zeroValue137
  i39 := by kernel_rfl
  t44 := Tryd.underlying145
  a44 := Tryd.isAgg145
  z44 := Tryd.sizeOf145
  v44 := Tryd.zeroValue145
  i44 := by kernel_rfl
  t47 := Tryd.underlying88
  a47 := Tryd.isAgg88
  z47 := Tryd.sizeOf88
  v47 := Tryd.zeroValue88
  i47 := by kernel_rfl
  t48 := Tryd.underlying152
  a48 := Tryd.isAgg152
  z48 := Tryd.sizeOf152
  v48 := Tryd.zeroValue152
  i48 := by kernel_rfl
  t50 := Tryd.underlying154
  a50 := Tryd.isAgg154
  z50 := Tryd.sizeOf154
  v50 := Tryd.zeroValue154
  i50 := by kernel_rfl
  t52 := Tryd.underlying113
  a52 := Tryd.isAgg113
  z52 := Tryd.sizeOf113
  v52 := Tryd.zeroValue113
  i52 := by kernel_rfl
  t55 := Tryd.underlying116
  a55 := Tryd.isAgg116
  z55 := Tryd.sizeOf116
  v55 := Tryd.zeroValue116
  i55 := by kernel_rfl
  t59 := Tryd.underlying127
  a59 := Tryd.isAgg127
  z59 := Tryd.sizeOf127
  v59 := Tryd.zeroValue127
  i59 := by kernel_rfl
  t60 := Tryd.underlying128
  a60 := Tryd.isAgg128
  z60 := Tryd.sizeOf128
  v60 := Tryd.zeroValue128
  i60 := by kernel_rfl
  t61 := Tryd.underlying129
  a61 := Tryd.isAgg129
  z61 := Tryd.sizeOf129
  t65 := Tryd.underlying148
  a65 := Tryd.isAgg148
  z65 := Tryd.sizeOf148
  v65 := Tryd.zeroValue148
  i65 := by kernel_rfl
  t66 := Tryd.underlying149
  a66 := Tryd.isAgg149
  z66 := Tryd.sizeOf149
  v66 := Tryd.zeroValue149
  i66 := by kernel_rfl
  t67 := Tryd.underlying64
  a67 := Tryd.isAgg64
  z67 := Tryd.sizeOf64
  v67 := Tryd.zeroValue64
  i67 := by kernel_rfl
  g0 := by kernel_rfl
  m0 := by kernel_rfl
  g1 := by kernel_rfl
  m1 := by kernel_rfl
  g2 := by kernel_rfl
  m2 := by kernel_rfl
  g3 := by kernel_rfl
  m3 := by kernel_rfl
  g4 := by kernel_rfl
  m4 := by kernel_rfl }
open Go.RowKit in
theorem c_PU_ok (s : ByteArray) (hmax : s.size ≤ 9223372036854775806) (u : Nat) (h : Lib.parseUintB 64 s.data.toList = .ok u) (w : World) :
    Calls Tryd.prog 76 #[.string s, .int .i64 10, .int .i64 64] w fun e w' => e = .returned (.tuple #[.int .u64 u, .nilIface]) ∧ (w' = w ∨ w' = Lib.bytesWorld w 5 s) := Any.strconv_ParseUint_10_at64_ok laysPu14 s hmax u h w
open Go.RowKit in
theorem c_PU_syntax (s : ByteArray) (hlim : s.size ≤ 281474976710656) (h : Lib.parseUintB 64 s.data.toList = Lib.parseUintB 64 []) (ev : Value) (w : World) (hv : w.cell? ⟨2, 0, none⟩ = some ev) (hev : ev = .nilIface ∨ ∃ te pe, ev = .iface te pe) :
    Calls Tryd.prog 76 #[.string s, .int .i64 10, .int .i64 64] w fun e w' => ∃ N, e = .returned (.tuple #[.int .u64 0, .iface 137 (.pointer (some ⟨N, 0, none⟩))]) ∧ w.heap.size ≤ N ∧ w'.heap[N]? = some (.cells #[.string ⟨#[80, 97, 114, 115, 101, 85, 105, 110, 116]⟩, .string s, ev] 145 (0, 0)) ∧ Below w.heap.size w w' := Any.strconv_ParseUint_10_at64_syntax laysPu14 s hlim (h.trans rfl) ev w hv hev
open Go.RowKit in
theorem c_PU_range (s : ByteArray) (hlim : s.size ≤ 281474976710656) (h : Lib.parseUintB 64 s.data.toList = .range) (ev : Value) (w : World) (hv : w.cell? ⟨3, 0, none⟩ = some ev) (hev : ev = .nilIface ∨ ∃ te pe, ev = .iface te pe) :
    Calls Tryd.prog 76 #[.string s, .int .i64 10, .int .i64 64] w fun e w' => ∃ N, e = .returned (.tuple #[.int .u64 18446744073709551615, .iface 137 (.pointer (some ⟨N, 0, none⟩))]) ∧ w.heap.size ≤ N ∧ w'.heap[N]? = some (.cells #[.string ⟨#[80, 97, 114, 115, 101, 85, 105, 110, 116]⟩, .string s, ev] 145 (0, 0)) ∧ Below w.heap.size w w' := Any.strconv_ParseUint_10_at64_range laysPu14 s hlim h ev w hv hev
end Go.Proofs.YtoejflnlkapkiaaDoor
