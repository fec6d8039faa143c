/- ScriptReads: any text is read as the document says, and a text that was read is its script's text. -/
import Derived.Test.YtoejflnlkapkiaaDoorSy21
import Derived.Test.YtoejflnlkapkiaaDoorSy22
import Derived.Test.YtoejflnlkapkiaaDoorSy23
import Derived.Test.YtoejflnlkapkiaaDoorSy30
namespace Go.Proofs.YtoejflnlkapkiaaDoor
open Go.ChangeShapes Go.WideShapes Go.ChangeAt Go.RowKit
set_option linter.unusedVariables false
set_option linter.unusedSimpArgs false
theorem prs_sz {t : ByteArray} : ∀ (k n a : Nat) (s s' : Sc), prsN t k n a s = .ok s' → SzN n s → SzN (n + k) s'
  | 0, n, a, s, s', h, _ => by simp [prsN] at h
  | k + 1, n, a, s, s', h, hz => by
    rw [prsN] at h
    split at h
    · have e : s = s' := by injection h
      subst e
      exact ⟨Nat.le_trans hz.1 (by omega), fun l hl => Nat.le_trans (hz.2 l hl) (by omega)⟩
    · split at h
      · cases h
      · split at h
        · cases h
        · rename_i s1 hadd
          have h2 := prs_sz k _ _ _ _ h (hz.step hadd)
          have e : n + (k + 1) = n + 1 + k := by omega
          rw [e]; exact h2
theorem prs_err {t : ByteArray} : ∀ (k n a : Nat) (s : Sc) (m : Nat), prsN t k n a s = .error m → 1 ≤ m
  | 0, n, a, s, m, h => by
    have e : n + 1 = m := by simpa [prsN] using h
    omega
  | k + 1, n, a, s, m, h => by
    rw [prsN] at h
    split at h
    · cases h
    · split at h
      · have e : n + 1 = m := by injection h
        omega
      · split at h
        · have e : n + 1 = m := by injection h
          omega
        · exact prs_err k _ _ _ _ h
theorem join_len : ∀ l : List (List UInt8), l.length ≤ (Lib.join l [32]).length + 1
  | [] => by simp
  | [x] => by simp
  | x :: y :: r => by
    have e : Lib.join (x :: y :: r) [32] = x ++ Lib.joinTail [32] (y :: r) := Lib.join_cons x (y :: r) [32]
    have := join_len (y :: r)
    rw [e, tail_join, List.length_append, List.length_cons]
    simp only [List.length_cons] at this ⊢
    omega
theorem lineB_len (ws : List ByteArray) : ws.length ≤ (lineB ws).length := by
  unfold lineB
  have := join_len (ws.map (·.data.toList))
  rw [List.length_map] at this
  rw [List.length_append]; simp only [List.length_cons, List.length_nil]; omega
theorem scT_ge (st rm : Int) (ps ts : List Int) (cs : List (List Cl)) : ps.length ≤ (scT st rm ps ts cs).length ∧ ts.length ≤ (scT st rm ps ts cs).length := by
  have h1 := lineB_len (wsL ⟨#[112, 105, 99, 107, 115]⟩ ps)
  have h2 := lineB_len (wsL ⟨#[116, 105, 99, 107, 115]⟩ ts)
  rw [wsL_len] at h1 h2
  unfold scT headT
  simp only [List.length_append]
  omega
theorem own_list : ∀ {l : List Cl}, (∀ c ∈ l, ownC c = c) → l.map ownC = l
  | [], _ => rfl
  | c :: l, h => by rw [List.map_cons, h c (List.mem_cons_self ..), own_list (fun x hx => h x (List.mem_cons_of_mem _ hx))]
theorem own_map : ∀ {cs : List (List Cl)}, (∀ l ∈ cs, ∀ c ∈ l, ownC c = c) → cs.map (fun l => l.map ownC) = cs
  | [], _ => rfl
  | l :: cs, h => by rw [List.map_cons, own_list (h l (List.mem_cons_self ..)), own_map (fun x hx => h x (List.mem_cons_of_mem _ hx))]
namespace scriptReads
set_option maxRecDepth 100000 in
set_option maxHeartbeats 16000000 in
theorem main (W : World) (t : ByteArray) (hm : MaxAt W) (h1 : 1 < W.heap.size) (hE : Evs W) (hT : Lib.TabIs Tryd.prog W "internal/strconv.uint64pow10" .u64 Lib.pow10Tab) :
    Calls Tryd.prog 4 #[.string t] W fun e W' => e = .returned (.bool true) ∧ Below W.heap.size W W' := by
  have LV := Lib.hid (fun w (h : Below W.heap.size W w) => live42 w (pow10_bel hT h))
  by_cases hbig : 4000 < t.size
  · have d1 : decide ((4000 : Int) < (t.size : Int)) = true := decide_eq_true (by omega)
    have d1' : decide (4000 < t.size) = true := decide_eq_true hbig
    clear hm h1 hE hT
    go_enter Tryd.func4, Tryd.ntmps4
    go_wp2_with fail
    refine (LV.out _ (Below.refl _ _)).mono ?_
    rintro e x1 ⟨rfl, hb1⟩
    go_wp2_with fail
    go_ret
    exact ⟨rfl, hb1⟩
  have d1 : decide ((4000 : Int) < (t.size : Int)) = false := decide_eq_false (by omega)
  have d1' : decide (4000 < t.size) = false := decide_eq_false hbig
  have PA := Lib.hid (sc_parse t (by omega) W hm h1 hE hT)
  have RP := Lib.hid (fun w => r42_parse t (by omega) w)
  have HTS := Lib.hid hbig
  have HT := Lib.hid hT
  clear hm h1 hE hT hbig
  cases hp : prsN t (t.size + 1) 0 0 Sc.zero with
  | error n =>
    have hn1 := prs_err _ _ _ _ _ hp
    have hnz : ((n : Int) != 0) = true := by simp; omega
    have hnz' : (n != 0) = true := by simp; omega
    have HP := Lib.hid hp
    have AL := Lib.hid (fun w => l42_alike0 w)
    clear hn1 hp
    unfold zeroSc at AL
    go_enter Tryd.func4, Tryd.ntmps4
    go_wp2_with fail
    refine PA.out.mono ?_
    rintro e x1 ⟨hb1, hpo⟩
    rw [HP.out] at hpo
    unfold zeroSc at hpo
    subst hpo
    obtain ⟨x2, hx2, r2, hb2, hs2⟩ := boxG x1 #[.int .i64 0, .int .i64 0, .slice none 0 0, .slice none 0 0, .slice none 0 0] 25
    have HB2 := Lib.hid (hb1.trans (hb2.mono hb1.size))
    have HK2 := Lib.hid (fun (w : World) (h : Below x2.heap.size x2 w) => (h.block x1.heap.size (by omega)).trans r2)
    have HX2 := Lib.hid hx2
    clear hb1 r2 hb2 hs2 hx2
    go_wp2_with fail
    rw [HX2.out]
    refine (RP.out _).mono ?_
    rintro e x3 ⟨hb3, hpo⟩
    rw [HP.out] at hpo
    unfold zeroSc at hpo
    subst hpo
    obtain ⟨x4, hx4, r4, hb4, hs4⟩ := boxG x3 #[.int .i64 0, .int .i64 0, .slice none 0 0, .slice none 0 0, .slice none 0 0] 34
    have HB4 := Lib.hid (HB2.out.trans ((hb3.trans (hb4.mono hb3.size)).mono HB2.out.size))
    have hk := HK2.out x4 (hb3.trans (hb4.mono hb3.size))
    have HM4 := Lib.hid hk
    have HX4 := Lib.hid hx4
    clear r4 hb3 hb4 hs4 hk hx4
    go_upto_region 6 with fail
    rw [HX4.out]
    obtain ⟨m0, m1, m2, m3, m4⟩ := sc_cells5 HM4.out
    go_wp2_with fail
    refine (AL.out _).mono ?_
    rintro e x5 ⟨rfl, hb5⟩
    have HB5 := Lib.hid (HB4.out.trans (hb5.mono HB4.out.size))
    clear hb5
    go_wp2_with fail
    refine (LV.out _ HB5.out).mono ?_
    rintro e x6 ⟨rfl, hb6⟩
    have HB6 := Lib.hid (HB5.out.trans (hb6.mono HB5.out.size))
    clear hb6
    go_wp2_with fail
    go_ret
    exact ⟨rfl, HB6.out⟩
  | ok s =>
    obtain ⟨htx, hcg, hps, hts, hst, hrm⟩ := prs_back _ _ _ _ _ hp (by simp [txS]) (fun _ => rfl) (fun l hl => by cases hl) ⟨fun x hx => (by cases hx), fun x hx => (by cases hx), ⟨by decide, by decide⟩, ⟨by decide, by decide⟩⟩
    have hz := prs_sz _ _ _ _ _ hp ⟨Nat.le_refl _, fun l hl => by cases hl⟩
    have hlen : t.data.toList.length = t.size := rfl
    rw [htx] at hlen
    have hge := scT_ge s.st s.rm s.ps s.ts s.cs
    have hbs : bigS (scT s.st s.rm s.ps s.ts s.cs) = t := by
      unfold bigS
      rw [if_pos (by have := HTS.out; omega)]
      exact ba_ext2 (by rw [htx])
    have hbe : bigE (scT s.st s.rm s.ps s.ts s.cs) = 0 := by
      unfold bigE
      rw [if_pos (by have := HTS.out; omega)]
    have HP := Lib.hid hp
    have HCG := Lib.hid hcg
    have HI := Lib.hid (And.intro hst hrm)
    have HZ := Lib.hid hz
    have HLN := Lib.hid (show s.ps.length ≤ 4000 ∧ s.ts.length ≤ 4000 ∧ (scT s.st s.rm s.ps s.ts s.cs).length ≤ 4000 by have := HTS.out; omega)
    have HBS := Lib.hid (And.intro hbs hbe)
    clear hp htx hcg hps hts hst hrm hz hlen hge hbs hbe
    go_enter Tryd.func4, Tryd.ntmps4
    go_wp2_with fail
    refine PA.out.mono ?_
    rintro e x1 ⟨hb1, hpo⟩
    rw [HP.out] at hpo
    obtain ⟨cv, pp, pk, tp, tk, rfl, hrc, hri1, hri2, -, -⟩ := hpo
    obtain ⟨cp, cc, rfl, -⟩ := id hrc
    obtain ⟨x2, hx2, r2, hb2, hs2⟩ := boxG x1 #[.int .i64 s.st, .int .i64 s.rm, .slice cp s.cs.length cc, .slice pp s.ps.length pk, .slice tp s.ts.length tk] 25
    have HB1 := Lib.hid hb1
    have HB2 := Lib.hid (hb1.trans (hb2.mono hb1.size))
    have HK2 := Lib.hid (fun (w : World) (h : Below x2.heap.size x2 w) => (h.block x1.heap.size (by omega)).trans r2)
    have HRC := Lib.hid (hrc.below hb2)
    have HR1 := Lib.hid (hri1.below hb2)
    have HR2 := Lib.hid (hri2.below hb2)
    clear hb1 r2 hb2 hs2 hrc hri1 hri2
    go_wp2_with fail
    refine (RP.out _).mono ?_
    rintro e x3 ⟨hb3, hpo⟩
    rw [HP.out] at hpo
    obtain ⟨cv2, pp2, pk2, tp2, tk2, rfl, hrc, hri1, hri2⟩ := hpo
    obtain ⟨cp2, cc2, rfl, -⟩ := id hrc
    clear hx2
    obtain ⟨x4, hx4, r4, hb4, hs4⟩ := boxG x3 #[.int .i64 s.st, .int .i64 s.rm, .slice cp2 s.cs.length cc2, .slice pp2 s.ps.length pk2, .slice tp2 s.ts.length tk2] 34
    have HB24 := Lib.hid (hb3.trans (hb4.mono hb3.size))
    have HB4 := Lib.hid (HB2.out.trans (HB24.out.mono HB2.out.size))
    have hk := HK2.out x4 HB24.out
    obtain ⟨m0, m1, m2, m3, m4⟩ := sc_cells5 hk
    obtain ⟨k0, k1, k2, k3, k4⟩ := sc_cells5 r4
    have hal := l42_alike s.st s.rm (.slice cp s.cs.length cc) (.slice cp2 s.cs.length cc2) s.cs pp tp pp2 tp2 pk tk pk2 tk2 s.ps s.ts x4 (by rw [own_map (fun l hl c hc => (HCG.out l hl c hc).own)]; exact HRC.out.below HB24.out) (hrc.below hb4)
      (by have h1 := HZ.out.1; have h2 := HTS.out; omega) (fun l hl => by have h1 := HZ.out.2 l hl; have h2 := HTS.out; omega) (HR1.out.below HB24.out) (HR2.out.below HB24.out) (hri1.below hb4) (hri2.below hb4)
    have AL := Lib.hid hal
    clear r4 hb3 hb4 hs4 hk hrc hri1 hri2 hal
    go_wp2_with fail
    refine AL.out.mono ?_
    rintro e x5 ⟨rfl, hb5⟩
    have HB25 := Lib.hid (HB24.out.trans (hb5.mono HB24.out.size))
    have HB5 := Lib.hid (HB2.out.trans (HB25.out.mono HB2.out.size))
    clear hb5 m0 m1 m2 m3 m4 k0 k1 k2 k3 k4 hx4
    have hk := HK2.out x5 HB25.out
    obtain ⟨m0, m1, m2, m3, m4⟩ := sc_cells5 hk
    have PR := sc_print s.st s.rm (.slice cp s.cs.length cc) s.cs pp s.ps.length pk s.ps tp s.ts.length tk s.ts x5 HI.out.1 HI.out.2 (HRC.out.below HB25.out) (by have h1 := HZ.out.1; have h2 := HTS.out; omega) (fun l hl => by have h1 := HZ.out.2 l hl; have h2 := HTS.out; omega)
      (HR1.out.below HB25.out) (by have := HLN.out; omega) (HR2.out.below HB25.out) (by have := HLN.out; omega) (by have := HLN.out; omega) (fun l hl c hc => by have h := (HCG.out l hl c hc).good; exact (gw_word h.lo h.hi).1.1) (pow10_bel HT.out HB5.out)
      (fun l hl c hc x w hok hx htb => sc_words c x w hx hok (by have h1 := (HCG.out l hl c hc).sz; have h2 := HTS.out; omega) (by have h1 := (HCG.out l hl c hc).xs; have h2 := HTS.out; omega) htb)
    rw [HBS.out.1, HBS.out.2] at PR
    have PR := Lib.hid PR
    clear hk
    go_wp2_with fail
    refine PR.out.mono ?_
    rintro e x6 ⟨rfl, hb6⟩
    have HB6 := Lib.hid (HB5.out.trans (hb6.mono HB5.out.size))
    clear hb6 m0 m1 m2 m3 m4
    have htt' : (t.toList == t.toList) = true := by simp
    have htt2 : (t.data.toList == t.data.toList) = true := by simp
    go_wp2_with fail
    refine (LV.out _ HB6.out).mono ?_
    rintro e x7 ⟨rfl, hb7⟩
    have HB7 := Lib.hid (HB6.out.trans (hb7.mono HB6.out.size))
    clear hb7
    go_wp2_with fail
    go_ret
    exact ⟨rfl, HB7.out⟩
theorem walk (W : World) (t : ByteArray) (_ : t.size ≤ maxLen) (hm : ∃ m, W.cell? ⟨1, 0, none⟩ = some (.int .i64 m)) (hL : laidMet Tryd.prog Rows.scriptReadsRow.laid W) :
    Calls Tryd.prog 4 #[.string t] W fun e W' => e = .returned (.bool true) ∧ Below W.heap.size W W' := by
  have hT : Lib.TabIs Tryd.prog W "internal/strconv.uint64pow10" .u64 Lib.pow10Tab := sw_pow10_head (laidMet.tail (laidMet.tail hL))
  have e3 : EvAt W 3 := sw_ev (laidMet.tail (laidMet.tail (laidMet.tail (laidMet.tail hL)))) (by kernel_rfl) (by kernel_rfl)
  have e2 : EvAt W 2 := sw_ev (laidMet.tail (laidMet.tail (laidMet.tail (laidMet.tail (laidMet.tail hL))))) (by kernel_rfl) (by kernel_rfl)
  have h3 : 3 < W.heap.size := by obtain ⟨ev, h, -⟩ := e3; have := block_lt_of_cell h; simpa using this
  exact main W t hm (by omega) ⟨e2, e3, h3⟩ hT
end scriptReads
end Go.Proofs.YtoejflnlkapkiaaDoor
