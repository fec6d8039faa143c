/- Put together by program (merge2.py): Sgb Sgc Sgd Sge Sgf Sha Shd. -/
import Derived.Lib.AtoiErrMem
import Derived.Deep.Cut
import Derived.BigQuiet
import Derived.Test.YtoejflnlkapkiaaDoorSy9
/- Which word is a number: plain numbers. -/
namespace Go.Proofs.YtoejflnlkapkiaaDoor
open Go.ChangeShapes Go.WideShapes Go.ChangeAt Go.RowKit
set_option linter.unusedVariables false
open Go.Lib (NumEnd parseUint10 parseMag atoiAll parseUintM parseUintB)
set_option linter.unusedSimpArgs false
def fv (acc : Nat) : List UInt8 → Nat
  | [] => acc
  | c :: r => fv (acc * 10 + (c.toNat - 48)) r
theorem fv_ge : ∀ (l : List UInt8) (acc : Nat), acc ≤ fv acc l
  | [], _ => Nat.le_refl _
  | c :: r, acc => by
    have := fv_ge r (acc * 10 + (c.toNat - 48))
    unfold fv; omega
theorem fv_snoc : ∀ (l : List UInt8) (acc : Nat) (c : UInt8), fv acc (l ++ [c]) = fv acc l * 10 + (c.toNat - 48)
  | [], _, _ => rfl
  | x :: r, acc, c => by
    show fv _ (r ++ [c]) = _
    rw [fv_snoc r _ c]; rfl
def digB (c : UInt8) : Prop := 48 ≤ c.toNat ∧ c.toNat ≤ 57
theorem u8_digit {k : Nat} (h : k < 10) : (UInt8.ofNat (48 + k)).toNat = 48 + k := by
  rw [UInt8.toNat_ofNat']; omega
theorem dec_digs (n : Nat) : ∀ c ∈ Lib.decDigits n, digB c := by
  induction n using Nat.strongRecOn with
  | _ n ih =>
    intro c hc
    by_cases h : n < 10
    · rw [sg_small h, List.mem_singleton] at hc
      subst hc; unfold digB; rw [u8_digit h]; omega
    · rw [sg_big h, List.mem_append, List.mem_singleton] at hc
      rcases hc with hc | hc
      · exact ih (n / 10) (by omega) c hc
      · subst hc; unfold digB; rw [u8_digit (by omega)]; omega
theorem fv_dec (n : Nat) : fv 0 (Lib.decDigits n) = n := by
  induction n using Nat.strongRecOn with
  | _ n ih =>
    by_cases h : n < 10
    · rw [sg_small h]
      show 0 * 10 + ((UInt8.ofNat (48 + n)).toNat - 48) = n
      rw [u8_digit h]; omega
    · rw [sg_big h, fv_snoc, ih (n / 10) (by omega), u8_digit (by omega)]; omega
theorem pu_ok : ∀ (l : List UInt8) (acc : Nat), (∀ c ∈ l, digB c) → fv acc l < 18446744073709551616 → parseUint10 acc l = .ok (fv acc l)
  | [], _, _, _ => rfl
  | c :: r, acc, h, hb => by
    have hc : 48 ≤ c.toNat ∧ c.toNat ≤ 57 := h c (List.mem_cons_self ..)
    have h1 := fv_ge r (acc * 10 + (c.toNat - 48))
    have hb' : fv (acc * 10 + (c.toNat - 48)) r < 18446744073709551616 := hb
    rw [parseUint10, if_pos hc, if_neg (by omega), if_neg (by omega)]
    exact pu_ok r _ (fun x hx => h x (List.mem_cons_of_mem _ hx)) hb'
theorem dec_ne (n : Nat) : Lib.decDigits n ≠ [] := by
  by_cases h : n < 10
  · rw [sg_small h]; simp
  · rw [sg_big h]; simp
theorem pm_dec {n : Nat} (h : n < 18446744073709551616) : parseMag (Lib.decDigits n) = .ok n := by
  unfold parseMag
  rw [if_neg (dec_ne n), pu_ok _ _ (dec_digs n) (by rw [fv_dec]; exact h), fv_dec]
theorem atoi_itoa {v : Int} (h : i64r v) : atoiAll (Lib.itoa v) = .ok v := by
  obtain ⟨h0, h1⟩ := h
  by_cases hv : v < 0
  · obtain ⟨u, rfl⟩ : ∃ u : Nat, v = -(u : Int) := ⟨v.natAbs, by omega⟩
    rw [Lib.itoa_neg u (by omega)]
    have e : (45 : UInt8).toNat = 45 := rfl
    unfold atoiAll
    simp only [e, or_true, if_true, pm_dec (n := u) (by omega)]
    rw [if_neg (by simp), if_neg (by omega)]
  · obtain ⟨u, rfl⟩ : ∃ u : Nat, v = u := ⟨v.toNat, by omega⟩
    rw [Lib.itoa_nonneg]
    obtain ⟨c, r, hcr⟩ : ∃ c r, Lib.decDigits u = c :: r := List.exists_cons_of_ne_nil (dec_ne u)
    have hc := dec_digs u c (by rw [hcr]; exact List.mem_cons_self ..)
    unfold digB at hc
    have hm := pm_dec (n := u) (by omega)
    rw [hcr] at hm ⊢
    unfold atoiAll
    simp only [if_neg (show ¬ (c.toNat = 43 ∨ c.toNat = 45) by omega), hm]
    have e : ¬ c.toNat = 45 := by omega
    rw [if_neg (by omega), if_neg (by omega), if_neg e]
/-- A word that is a number, just as it is written. -/
def numW (l : List UInt8) : Option Int := match atoiAll l with | .ok v => if Lib.itoa v = l then some v else none | _ => none
theorem numW_of {v : Int} (h : i64r v) : numW (Lib.itoa v) = some v := by unfold numW; rw [atoi_itoa h]; simp
theorem numW_is {l : List UInt8} {v : Int} (h : numW l = some v) : i64r v ∧ Lib.itoa v = l := by
  unfold numW at h
  split at h
  · next v' hv =>
    split at h
    · next e =>
      cases h
      exact ⟨Lib.atoiAll_bounds hv, e⟩
    · cases h
  · cases h
/-- All words are. -/
def numsW : List (List UInt8) → Option (List Int)
  | [] => some []
  | w :: r => match numW w with | none => none | some v => (numsW r).map (v :: ·)
theorem numsW_take {ws : List (List UInt8)} : ∀ {k : Nat} {vs : List Int} {w : List UInt8}, numsW (ws.take k) = some vs → ws[k]? = some w → numsW (ws.take (k + 1)) = (numW w).map (fun v => vs ++ [v]) := by
  induction ws with
  | nil => intro k vs w _ h; simp at h
  | cons x r ih =>
    intro k vs w h hw
    cases k with
    | zero =>
      simp at hw; subst hw
      simp [numsW] at h
      subst h
      simp only [List.take_succ_cons, List.take_zero, numsW]
      cases numW x <;> rfl
    | succ k =>
      simp only [List.take_succ_cons, numsW] at h ⊢
      cases hx : numW x with
      | none => rw [hx] at h; cases h
      | some v =>
        rw [hx] at h
        simp only at h ⊢
        cases hr : numsW (r.take k) with
        | none => rw [hr] at h; cases h
        | some us =>
          rw [hr] at h
          simp at h; subst h
          rw [ih hr (by simpa using hw)]
          cases numW w <;> simp
theorem numsW_none {ws : List (List UInt8)} {k : Nat} (h : numsW (ws.take k) = none) : numsW ws = none := by
  induction ws generalizing k with
  | nil => simp [numsW] at h
  | cons x r ih =>
    cases k with
    | zero => simp [numsW] at h
    | succ k =>
      simp only [List.take_succ_cons, numsW] at h ⊢
      cases hx : numW x with
      | none => rfl
      | some v =>
        rw [hx] at h
        simp only at h ⊢
        cases hr : numsW (r.take k) with
        | none => rw [ih hr]; rfl
        | some us => rw [hr] at h; cases h
theorem numsW_len : ∀ {ws : List (List UInt8)} {vs : List Int}, numsW ws = some vs → vs.length = ws.length
  | [], vs, h => by simp [numsW] at h; subst h; rfl
  | w :: r, vs, h => by
    simp only [numsW] at h
    cases hw : numW w with
    | none => rw [hw] at h; cases h
    | some v =>
      rw [hw] at h; simp only at h
      cases hr : numsW r with
      | none => rw [hr] at h; cases h
      | some us => rw [hr] at h; simp at h; subst h; simp [numsW_len hr]
end Go.Proofs.YtoejflnlkapkiaaDoor
/- script.ints: numbers, if all words are. -/
namespace Go.Proofs.YtoejflnlkapkiaaDoor
open Go.ChangeShapes Go.WideShapes Go.ChangeAt Go.RowKit
set_option linter.unusedVariables false
set_option linter.unusedSimpArgs false
/-- The variables of errors hold some. -/
def EvAt (w : World) (g : Nat) : Prop := ∃ ev, w.cell? ⟨g, 0, none⟩ = some ev ∧ (ev = .nilIface ∨ ∃ te pe, ev = .iface te pe)
theorem EvAt.below {w w' : World} {B g : Nat} (h : EvAt w g) (hb : Below B w w') (h1 : g < B) : EvAt w' g := by
  obtain ⟨m, h, h2⟩ := h
  exact ⟨m, (hb.cell (p := ⟨g, 0, none⟩) h1).trans h, h2⟩
def Evs (w : World) : Prop := EvAt w 2 ∧ EvAt w 3 ∧ 3 < w.heap.size
theorem Evs.below {w w' : World} (h : Evs w) (hb : Below w.heap.size w w') : Evs w' := ⟨h.1.below hb (by have := h.2.2; omega), h.2.1.below hb h.2.2, Nat.lt_of_lt_of_le h.2.2 hb.size⟩
theorem bw_below (w : World) (T : TypeId) (t : ByteArray) : Below w.heap.size w (Lib.bytesWorld w T t) := by
  exact Lib.bytesWorld_below w T t
def AtOk (l : List UInt8) (e : Ending) : Prop := (∃ v, Lib.atoiAll l = .ok v ∧ e = .returned (.tuple #[.int .i64 v, .nilIface])) ∨ ((∀ v, Lib.atoiAll l ≠ .ok v) ∧ ∃ v te pe, e = .returned (.tuple #[.int .i64 v, .iface te pe]))
theorem sc_atoi (s : ByteArray) (hs : s.size ≤ 100000000) (w : World) (hE : Evs w) : Calls Tryd.prog 58 #[.string s] w fun e w' => AtOk s.data.toList e ∧ Below w.heap.size w w' := by
  obtain ⟨⟨e2, h2, h2'⟩, ⟨e3, h3, h3'⟩, -⟩ := hE
  cases h : Lib.atoiAll s.data.toList
  case ok v =>
    refine (c_Atoi_ok s (by omega) v h w).mono ?_
    rintro e w' ⟨rfl, hw⟩
    refine ⟨.inl ⟨v, h, rfl⟩, ?_⟩
    rcases hw with rfl | ⟨t, rfl⟩
    · exact Below.refl _ _
    · exact bw_below _ _ _
  case range =>
    refine (c_Atoi_range s (by omega) h e3 w h3 h3').mono ?_
    rintro e w' ⟨N, rfl, -, -, hb⟩
    exact ⟨.inr ⟨(fun v hv => by rw [h] at hv; cases hv), _, _, _, rfl⟩, hb⟩
  refine (c_Atoi_syntax s (by omega) (show _ = Lib.atoiAll [] from h) e2 w h2 h2').mono ?_
  rintro e w' ⟨N, rfl, -, -, hb⟩
  exact ⟨.inr ⟨(fun v hv => by rw [h] at hv; cases hv), _, _, _, rfl⟩, hb⟩
/-- A row of words. -/
def RowS (w : World) (v : Value) (ws : List (List UInt8)) : Prop := ∃ p c, v = .slice p ws.length c ∧ ws.length ≤ c ∧ (ws = [] ∨ ∃ b o, p = some ⟨b, o, none⟩ ∧ b < w.heap.size ∧ ∀ (j : Nat) x, ws[j]? = some x → w.cell? ⟨b, o + j, none⟩ = some (.string ⟨x.toArray⟩))
theorem RowS.below {w w' : World} {v : Value} {ws : List (List UInt8)} (h : RowS w v ws) (hb : Below w.heap.size w w') : RowS w' v ws := by
  obtain ⟨p, c, rfl, hc, h⟩ := h
  refine ⟨p, c, rfl, hc, ?_⟩
  rcases h with h | ⟨b, o, hp, hl, h⟩
  · exact .inl h
  · exact .inr ⟨b, o, hp, Nat.lt_of_lt_of_le hl hb.size, fun j x hj => (hb.cell (p := ⟨b, o + j, none⟩) hl).trans (h j x hj)⟩
set_option maxRecDepth 100000 in
set_option maxHeartbeats 8000000 in
theorem sc_ints (v : Value) (ws : List (List UInt8)) (W : World) (h : RowS W v ws) (hn : ws.length ≤ 1000000) (hl : ∀ x ∈ ws, x.length ≤ 100000000) (hE : Evs W) (hT : Lib.TabIs Tryd.prog W "internal/strconv.uint64pow10" .u64 Lib.pow10Tab) :
    Calls Tryd.prog 47 #[v] W fun e w' => ((∃ vs u, numsW ws = some vs ∧ e = .returned (.tuple #[u, .bool true]) ∧ Owns w' W.heap.size 3 .i64 u vs) ∨ (numsW ws = none ∧ e = .returned (.tuple #[.slice none 0 0, .bool false]))) ∧ Below W.heap.size W w' := by
  obtain ⟨p, c, rfl, hc, hx⟩ := h
  have HX := Lib.hid hx
  have HN := Lib.hid hn
  have HL := Lib.hid hl
  have HE := Lib.hid hE
  have HT_ := Lib.hid hT
  clear hx hn hl hE hT hc
  go_enter Tryd.func47, Tryd.ntmps47
  go_wp2_with fail
  go_loopw [4, 6, 7, 8, 11] (fun u _ _ _ j wr => ∃ (k : Nat) (vs : List Int), j = .int .i64 k ∧ Hid (k ≤ ws.length) ∧ Hid (numsW (ws.take k) = some vs) ∧ Hid (Owns wr W.heap.size 3 .i64 u vs) ∧ Hid (Below W.heap.size W wr)) (fun _ _ _ _ j _ => ws.length - (intOf j).toNat)
  case atStart => exact ⟨0, [], rfl, Lib.hid (Nat.zero_le _), Lib.hid rfl, Lib.hid (Owns.nil _ _ _ _), Lib.hid (Below.refl _ _)⟩
  case round =>
    obtain ⟨k, vs, rfl, HK, HV, HO, HB⟩ := hrel
    obtain ⟨x1, rfl⟩ : ∃ w, w = wr := ⟨_, rfl⟩
    by_cases hk : k < ws.length
    · obtain ⟨x, hxk⟩ : ∃ x, ws[k]? = some x := ⟨_, List.getElem?_eq_getElem hk⟩
      rcases HX.out with h0 | ⟨b, o, rfl, hb, hcell⟩
      · rw [h0] at hk; cases hk
      have hc1 : x1.cell? ⟨b, o + k, none⟩ = some (.string ⟨x.toArray⟩) := (HB.out.cell (p := ⟨b, o + k, none⟩) hb).trans (hcell k x hxk)
      have HKL := Lib.hid hk
      have hkk : (k : Int) < (ws.length : Int) := by omega
      have hk0 : (0 : Int) ≤ (k : Int) := by omega
      have AT1 := Lib.hid (sc_atoi ⟨x.toArray⟩ (by have := HL.out x (List.mem_of_getElem? hxk); simpa [ByteArray.size] using this) x1 (HE.out.below HB.out))
      have WK := Lib.hid (show wrap64 ((k : Int) + 1) = ((k + 1 : Nat) : Int) by have := HN.out; simp only [wrap64]; omega)
      have HST := Lib.hid (numsW_take HV.out hxk)
      clear hxk hcell hb hk
      go_wp2_with fail
      refine AT1.out.mono ?_
      rintro e x2 ⟨hat, hb2⟩
      have HB2 := Lib.hid (HB.out.trans (hb2.mono HB.out.size))
      have HO2 := Lib.hid (HO.out.below hb2)
      clear hb2
      rcases hat with ⟨n, hn, rfl⟩ | ⟨hno, n, te, pe, rfl⟩
      · have hbd := Lib.atoiAll_bounds hn
        have IT := Lib.hid (c_strconv_Itoa n hbd.1 hbd.2 x2 (pow10_bel HT_.out HB2.out))
        have HNN := Lib.hid hn
        clear hn
        go_wp2_with fail
        refine IT.out.mono ?_
        rintro e x3 ⟨rfl, q, os, hx3⟩
        have hb3 : Below x2.heap.size x2 x3 := by rw [hx3]; exact Lib.below_grow x2.heap.size x2 (Nat.le_refl _) q os
        have HB3 := Lib.hid (HB2.out.trans (hb3.mono HB2.out.size))
        have HO3 := Lib.hid (HO2.out.below hb3)
        clear hb3 hx3
        by_cases heq : Lib.itoa n = x
        · subst heq
          have HNW := Lib.hid (show numW (Lib.itoa n) = some n by unfold numW; rw [HNN.out]; simp)
          have hsz := HB3.out.size
          have hkn : vs.length < 17592186044415 := by
            have h2 := HN.out
            have h1 := numsW_len HV.out
            rw [List.length_take] at h1
            omega
          obtain ⟨ua, uc, rfl, -, -, -⟩ := HO3.out.shape
          go_upto_region 8 with fail
          go_wp2_with (at_builtin; (refine append_one (T := 23) (E := 3) (k := .i64) (B := W.heap.size) (ys := vs) (y := n) Tryd.underlying23 info_i64 rfl _ _ rfl rfl HO3.out rfl hsz hkn ?_); intro v4 x4 hO4 hb4; have HO4 := Lib.hid hO4; have HB4 := Lib.hid hb4; clear hO4 hb4)
          go_roundw
          case rel => exact ⟨k + 1, vs ++ [n], by first | rw [WK.out] | simp, Lib.hid HKL.out, Lib.hid (by rw [HST.out, HNW.out]; rfl), HO4, Lib.hid (HB3.out.trans HB4.out)⟩
          case measure => first | exact sc_meas' ws.length k HKL.out | (rw [WK.out]; exact sc_meas ws.length k HKL.out)
        · have HNW := Lib.hid (show numW x = none by
            unfold numW; rw [HNN.out]
            simp only
            rw [if_neg heq])
          have HFIN := Lib.hid (show numsW ws = none by
            have h := HST.out
            rw [HNW.out] at h
            exact numsW_none h)
          have hq : ((⟨(Lib.itoa n).toArray⟩ : ByteArray).toList == (⟨x.toArray⟩ : ByteArray).toList) = false := by
            rw [Lib.toList_data, Lib.toList_data]
            exact beq_eq_false_iff_ne.2 heq
          have hq2 : (Lib.itoa n == x) = false := beq_eq_false_iff_ne.2 heq
          clear heq
          go_wp2_with fail
          go_ret2
          exact ⟨.inr ⟨HFIN.out, rfl⟩, HB3.out⟩
      · have HNW := Lib.hid (show numW x = none by
          cases hw : numW x with
          | none => rfl
          | some v =>
            have h1 := (numW_is hw)
            have h2 := atoi_itoa h1.1
            rw [h1.2] at h2
            exact absurd h2 (hno v))
        have HFIN := Lib.hid (show numsW ws = none by
          have h := HST.out
          rw [HNW.out] at h
          exact numsW_none h)
        clear hno
        go_wp2_with fail
        go_ret2
        exact ⟨.inr ⟨HFIN.out, rfl⟩, HB2.out⟩
    · have h9 : k = ws.length := by have := HK.out; omega
      subst h9
      have hkk : ¬ (ws.length : Int) < (ws.length : Int) := by omega
      have HV2 := Lib.hid (show numsW ws = some vs by have h := HV.out; rwa [List.take_length] at h)
      go_wp2_with fail
      go_ret2
      exact ⟨.inl ⟨vs, HV2.out, _, rfl, HO.out⟩, HB.out⟩
end Go.Proofs.YtoejflnlkapkiaaDoor
/- Reference 42's number. -/
namespace Go.Proofs.YtoejflnlkapkiaaDoor
open Go.ChangeShapes Go.WideShapes Go.ChangeAt Go.RowKit
set_option linter.unusedVariables false
set_option linter.unusedSimpArgs false
/-- What stands behind the sign. -/
def magL (neg : Bool) (x : List UInt8) : List UInt8 := if neg then x.drop 1 else x
def negB (x : List UInt8) : Bool := x.head? == some 45
/-- How far the digits are read. -/
def rdN (neg : Bool) (x : List UInt8) (i : Nat) : Nat := fv 0 ((magL neg x).take (if neg then i - 1 else i))
theorem rdN_zero (neg : Bool) (x : List UInt8) : rdN neg x 0 = 0 := by
  have e : rdN neg x 0 = fv 0 ((magL neg x).take 0) := by unfold rdN; cases neg <;> rfl
  rw [e, List.take_zero]; rfl
theorem rdN_sign {x : List UInt8} : rdN true x 1 = 0 := by
  have e : rdN true x 1 = fv 0 ((x.drop 1).take 0) := rfl
  rw [e, List.take_zero]; rfl
theorem rdN_step {neg : Bool} {x : List UInt8} {i : Nat} {c : UInt8} (h : x[i]? = some c) (hi : neg = true → 1 ≤ i) : rdN neg x (i + 1) = rdN neg x i * 10 + (c.toNat - 48) := by
  unfold rdN magL
  cases neg with
  | false =>
    simp only [if_false, Bool.false_eq_true]
    rw [List.take_add_one, h]
    show fv 0 (x.take i ++ [c]) = _
    rw [fv_snoc]
  | true =>
    have h1 := hi rfl
    simp only [if_true]
    obtain ⟨j, rfl⟩ : ∃ j, i = j + 1 := ⟨i - 1, by omega⟩
    rw [show j + 1 + 1 - 1 = j + 1 by omega, show j + 1 - 1 = j by omega, List.take_add_one]
    have h2 : (x.drop 1)[j]? = some c := by rw [List.getElem?_drop, Nat.add_comm]; exact h
    rw [h2]
    show fv 0 ((x.drop 1).take j ++ [c]) = _
    rw [fv_snoc]
theorem rdN_all {neg : Bool} {x : List UInt8} : rdN neg x x.length = fv 0 (magL neg x) := by
  unfold rdN magL
  cases neg with
  | false => simp
  | true =>
    simp only [if_true]
    rw [List.take_of_length_le (by simp)]
/-- A number's own text is read as it. -/
theorem rd_itoa {v : Int} : (negB (Lib.itoa v) = true → v = - ((fv 0 (magL true (Lib.itoa v)) : Nat) : Int)) ∧ (negB (Lib.itoa v) = false → v = ((fv 0 (magL false (Lib.itoa v)) : Nat) : Int)) ∧ (∀ (i : Nat) (c : UInt8), (Lib.itoa v)[i]? = some c → ¬ digB c → negB (Lib.itoa v) = true ∧ i = 0) := by
  by_cases hv : v < 0
  · obtain ⟨u, rfl⟩ : ∃ u : Nat, v = -(u : Int) := ⟨v.natAbs, by omega⟩
    rw [Lib.itoa_neg u (by omega)]
    have hn : negB (45 :: Lib.decDigits u) = true := rfl
    refine ⟨fun _ => ?_, fun h => ?_, fun i c hc hd => ⟨hn, ?_⟩⟩
    · unfold magL; simp only [if_true, List.drop_succ_cons, List.drop_zero]; rw [fv_dec]
    · rw [hn] at h; cases h
    · cases i with
      | zero => rfl
      | succ i => exact absurd (dec_digs u c (List.mem_of_getElem? (by simpa using hc))) hd
  · obtain ⟨u, rfl⟩ : ∃ u : Nat, v = u := ⟨v.toNat, by omega⟩
    rw [Lib.itoa_nonneg]
    obtain ⟨c, r, hcr⟩ : ∃ c r, Lib.decDigits u = c :: r := List.exists_cons_of_ne_nil (dec_ne u)
    have hn : negB (Lib.decDigits u) = false := by
      rw [hcr]
      have hc := dec_digs u c (by rw [hcr]; exact List.mem_cons_self ..)
      unfold negB
      simp only [List.head?_cons, beq_eq_false_iff_ne, ne_eq, Option.some.injEq]
      intro e; subst e; unfold digB at hc; exact absurd hc.1 (by decide)
    refine ⟨fun h => ?_, fun _ => ?_, fun i c hc hd => absurd (dec_digs u c (List.mem_of_getElem? hc)) hd⟩
    · rw [hn] at h; cases h
    · unfold magL; simp only [if_false, Bool.false_eq_true]; rw [fv_dec]
theorem numW_bad {x : List UInt8} {i : Nat} {c : UInt8} (hc : x[i]? = some c) (hd : ¬ digB c) (hn : ¬ (negB x = true ∧ i = 0)) : numW x = none := by
  cases h : numW x with
  | none => rfl
  | some v =>
    obtain ⟨-, rfl⟩ := numW_is h
    exact absurd (rd_itoa.2.2 i c hc hd) hn
theorem wr_step (F b : Nat) (n : Int) (hn : n = wrap64 (F : Int)) (hb : 48 ≤ b) (hb2 : b ≤ 57) : wrap64 (wrap64 (wrap64 (10 * n) + (b : Int)) - 48) = wrap64 (((F * 10 + (b - 48) : Nat)) : Int) := by
  subst hn
  simp only [wrap64]
  omega
theorem numW_end {x : List UInt8} {m : Int} (hm : i64r m) (hw : m = wrap64 (if negB x = true then -((fv 0 (magL true x) : Nat) : Int) else ((fv 0 (magL false x) : Nat) : Int))) : numW x = if Lib.itoa m = x then some m else none := by
  by_cases he : Lib.itoa m = x
  · rw [if_pos he, ← he]; exact numW_of hm
  · rw [if_neg he]
    cases h : numW x with
    | none => rfl
    | some v =>
      exfalso
      obtain ⟨hv, rfl⟩ := numW_is h
      apply he
      congr 1
      rw [hw]
      obtain ⟨h1, h2, -⟩ := @rd_itoa v
      obtain ⟨hv0, hv1⟩ := hv
      by_cases hn : negB (Lib.itoa v) = true
      · rw [if_pos hn, ← h1 hn]; simp only [wrap64]; omega
      · rw [if_neg hn, ← h2 (by simpa using hn)]; simp only [wrap64]; omega
end Go.Proofs.YtoejflnlkapkiaaDoor
/- Reference 42's number: the walk. -/
namespace Go.Proofs.YtoejflnlkapkiaaDoor
open Go.ChangeShapes Go.WideShapes Go.ChangeAt Go.RowKit
set_option linter.unusedVariables false
set_option linter.unusedSimpArgs false
def NumOk (s : ByteArray) (W : World) (e : Ending) (w' : World) : Prop := (∃ m, e = .returned (.tuple #[.int .i64 m, .bool ((numW s.data.toList).isSome)]) ∧ ∀ v, numW s.data.toList = some v → m = v) ∧ Below W.heap.size W w'
theorem NumOk.bad {s : ByteArray} {W w' : World} {m : Int} (h : numW s.data.toList = none) (hb : Below W.heap.size W w') : NumOk s W (.returned (.tuple #[.int .i64 m, .bool false])) w' :=
  ⟨⟨m, by rw [h]; rfl, fun v hv => by rw [h] at hv; cases hv⟩, hb⟩
theorem num_fin {s : ByteArray} {W w' : World} {m : Int} (h : numW s.data.toList = if Lib.itoa m = s.data.toList then some m else none) (hb : Below W.heap.size W w') : NumOk s W (.returned (.tuple #[.int .i64 m, .bool ((itS m).toList == s.toList)])) w' := by
  have e : ((itS m).toList == s.toList) = (numW s.data.toList).isSome := by
    rw [h, Lib.toList_data, Lib.toList_data]
    by_cases he : Lib.itoa m = s.data.toList
    · rw [if_pos he]
      have h2 : (itS m).data.toList = s.data.toList := he
      rw [h2]; simp
    · rw [if_neg he]
      have h2 : ¬ (itS m).data.toList = s.data.toList := he
      rw [beq_eq_false_iff_ne.2 h2]; rfl
  rw [e]
  refine ⟨⟨m, rfl, fun v hv => ?_⟩, hb⟩
  rw [h] at hv
  by_cases he : Lib.itoa m = s.data.toList
  · rw [if_pos he] at hv; exact Option.some.inj hv
  · rw [if_neg he] at hv; cases hv
theorem wr_step2 (F b : Nat) (n : Int) (hn : n = wrap64 (F : Int)) (hb : 48 ≤ b) (hb2 : b ≤ 57) : wrap64 (wrap64 (wrap64 (10 * n) + wrap64 (b : Int)) - 48) = wrap64 (((F * 10 + (b - 48) : Nat)) : Int) := by
  subst hn
  simp only [wrap64]
  omega
theorem wr_bd (z : Int) : i64r (wrap64 z) := by unfold i64r; simp only [wrap64]; omega
theorem wr_neg (F : Nat) (n : Int) (hn : n = wrap64 (F : Int)) : wrap64 (0 - n) = wrap64 (-(F : Int)) := by
  subst hn; simp only [wrap64]; omega
theorem wrap64_id {z : Int} (h : i64r z) : wrap64 z = z := by obtain ⟨h0, h1⟩ := h; simp only [wrap64]; omega
theorem wr_zero : (0 : Int) = wrap64 ((0 : Nat) : Int) := by simp only [wrap64]; omega
set_option maxRecDepth 100000 in
set_option maxHeartbeats 8000000 in
theorem r42_number (s : ByteArray) (hl : s.size ≤ 100000000) (W : World) : Calls Tryd.prog 61 #[.string s] W (NumOk s W) := by
  have HL := Lib.hid hl
  by_cases h0 : 0 < s.size
  · have d0 : decide ((0 : Int) < (s.size : Int)) = true := decide_eq_true (by omega)
    have d0' : decide (0 < s.size) = true := decide_eq_true h0
    have h00 : (0 : Int) < (s.size : Int) := by omega
    obtain ⟨hl0, -⟩ := bt_list s 0 h0
    obtain ⟨neg, hneg⟩ : ∃ b, ((((s[0]'h0).toNat : Nat) : Int) == 45) = b := ⟨_, rfl⟩
    have HNG := Lib.hid (show negB s.data.toList = neg by
      rw [← hneg]
      unfold negB
      rw [List.head?_eq_getElem?, hl0]
      by_cases he : s[0]'h0 = 45
      · rw [he]; rfl
      · have h1 : ¬ (s[0]'h0).toNat = 45 := fun e => he (UInt8.toNat_inj.1 e)
        have h2 : ((((s[0]'h0).toNat : Nat) : Int) == 45) = false := by rw [beq_eq_false_iff_ne]; omega
        rw [h2, beq_eq_false_iff_ne]
        intro e; exact he (Option.some.inj e))
    clear hl0 hl
    go_enter Tryd.func61, Tryd.ntmps61
    go_wp2_with fail
    go_quiet (fail)
    go_wp2_with fail
    have HB0 := Lib.hid (below_drewN (Below.refl W.heap.size W) nq)
    go_loopw [4, 6] (fun y j wr => ∃ (i : Nat) (n : Int), y = .int .i64 n ∧ j = .int .i64 i ∧ Hid (i ≤ s.size) ∧ Hid (n = wrap64 (rdN neg s.data.toList i : Nat)) ∧ Hid (Below W.heap.size W wr)) (fun _ j _ => s.size - (intOf j).toNat)
    case atStart => exact ⟨0, 0, rfl, rfl, Lib.hid (Nat.zero_le _), Lib.hid (by rw [rdN_zero]; exact wr_zero), HB0⟩
    case round =>
      obtain ⟨i, n, rfl, rfl, HI, HV, HB⟩ := hrel
      obtain ⟨x1, rfl⟩ : ∃ w, w = wr := ⟨_, rfl⟩
      by_cases hi : i < s.size
      · have hii : (i : Int) < (s.size : Int) := by omega
        have hi0 : (0 : Int) ≤ (i : Int) := by omega
        have HIL := Lib.hid hi
        have WK := Lib.hid (show wrap64 ((i : Int) + 1) = ((i + 1 : Nat) : Int) by have := HL.out; simp only [wrap64]; omega)
        obtain ⟨hat, -⟩ := bt_list s i hi
        have HAT := Lib.hid hat
        clear hat
        by_cases hsg : neg = true ∧ i = 0
        · obtain ⟨rfl, rfl⟩ := hsg
          go_wp2_with fail
          go_roundw
          case rel => exact ⟨1, n, rfl, by first | rw [WK.out] | simp, Lib.hid h0, Lib.hid (by rw [rdN_sign]; have h := HV.out; rw [rdN_zero] at h; exact h), HB⟩
          case measure => first | exact sc_meas' s.size 0 h0 | (rw [WK.out]; exact sc_meas s.size 0 h0) | (simp only [intOf]; omega)
        · have hz : (neg && ((i : Int) == 0)) = false := by
            cases neg with
            | false => rfl
            | true => simp only [Bool.true_and, beq_eq_false_iff_ne]; intro e; exact hsg ⟨rfl, by omega⟩
          have HSG := Lib.hid hsg
          obtain ⟨b, hb⟩ : ∃ b, (s[i]'hi).toNat = b := ⟨_, rfl⟩
          have HNB := Lib.hid (show ¬ digB (s[i]'hi) → numW s.data.toList = none from fun hd => numW_bad HAT.out hd (by rw [HNG.out]; exact hsg))
          have HST := Lib.hid (rdN_step (neg := neg) HAT.out (fun hn => by
            have : i ≠ 0 := fun e => hsg ⟨hn, e⟩
            omega))
          have HDB := Lib.hid (show digB (s[i]'hi) ↔ 48 ≤ b ∧ b ≤ 57 by unfold digB; rw [hb])
          rw [hb] at HST
          clear hsg
          by_cases hb1 : b < 48
          · have e1 : decide ((b : Int) < 48) = true := decide_eq_true (by omega)
            have e1' : decide (b < 48) = true := decide_eq_true hb1
            have HBAD := Lib.hid (HNB.out (fun hd => by have := HDB.out.1 hd; omega))
            clear hb1
            cases neg
            all_goals
              go_wp2_with fail
              go_ret2
              exact NumOk.bad HBAD.out HB.out
          · have e1 : decide ((b : Int) < 48) = false := decide_eq_false (by omega)
            have e1' : decide (b < 48) = false := decide_eq_false hb1
            by_cases hb2 : 57 < b
            · have e2 : decide ((57 : Int) < (b : Int)) = true := decide_eq_true (by omega)
              have e2' : decide (57 < b) = true := decide_eq_true hb2
              have HBAD := Lib.hid (HNB.out (fun hd => by have := HDB.out.1 hd; omega))
              clear hb1 hb2
              cases neg
              all_goals
                go_wp2_with fail
                go_ret2
                exact NumOk.bad HBAD.out HB.out
            · have e2 : decide ((57 : Int) < (b : Int)) = false := decide_eq_false (by omega)
              have e2' : decide (57 < b) = false := decide_eq_false hb2
              have HWR := Lib.hid (wr_step2 _ b n HV.out (by omega) (by omega))
              clear hb1 hb2
              cases neg
              all_goals
                go_wp2_with fail
                go_roundw
                case rel => exact ⟨i + 1, _, rfl, by first | rw [WK.out] | simp, Lib.hid HIL.out, Lib.hid (by rw [HST.out]; exact HWR.out), HB⟩
                case measure => first | exact sc_meas' s.size i HIL.out | (rw [WK.out]; exact sc_meas s.size i HIL.out)
      · have h9 : i = s.size := by have := HI.out; omega
        subst h9
        have hii : ¬ (s.size : Int) < (s.size : Int) := by omega
        have hd : decide ((s.size : Int) < (s.size : Int)) = false := decide_eq_false hii
        have HSZ := Lib.hid (show s.data.toList.length = s.size from (Lib.size_eq s).symm)
        clear hi
        cases neg
        · have HM := Lib.hid (show i64r n by rw [HV.out]; exact wr_bd _)
          have HEND := Lib.hid (numW_end (x := s.data.toList) HM.out (by
            rw [HNG.out]
            have h := HV.out
            rw [← HSZ.out, rdN_all] at h
            simpa using h))
          have IT := Lib.hid (r42_int n HM.out x1)
          go_wp2_with fail
          refine IT.out.mono ?_
          rintro e x2 ⟨rfl, rfl⟩
          go_wp2_with fail
          go_ret2
          exact num_fin HEND.out HB.out
        · obtain ⟨m, hm⟩ : ∃ m, wrap64 (0 - n) = m := ⟨_, rfl⟩
          have hm2 : wrap64 (-n) = m := by rw [← hm]; congr 1; omega
          have HM := Lib.hid (show i64r m by rw [← hm]; exact wr_bd _)
          have HEND := Lib.hid (numW_end (x := s.data.toList) HM.out (by
            rw [HNG.out]
            have h := HV.out
            rw [← HSZ.out, rdN_all] at h
            rw [← hm, wr_neg _ _ h]
            simp))
          have IT := Lib.hid (r42_int m HM.out x1)
          go_wp2_with fail
          refine IT.out.mono ?_
          rintro e x2 ⟨rfl, rfl⟩
          go_wp2_with fail
          go_ret2
          exact num_fin HEND.out HB.out
  · have hz : s.size = 0 := by omega
    have d0 : decide ((0 : Int) < (s.size : Int)) = false := decide_eq_false (by omega)
    have d0' : decide (0 < s.size) = false := decide_eq_false h0
    have d0z : decide ((s.size : Int) > 0) = false := decide_eq_false (by omega)
    have HEND := Lib.hid (show numW s.data.toList = if Lib.itoa 0 = s.data.toList then some 0 else none by
      have hx : s.data.toList = [] := List.length_eq_zero_iff.1 (by rw [← Lib.size_eq]; exact hz)
      rw [hx]; decide +kernel)
    have HBQ := Lib.hid (fun (q : Nat) => below_drewN (Below.refl W.heap.size W) q)
    have IT := Lib.hid (fun (w : World) => r42_int 0 (by unfold i64r; decide) w)
    clear hl h0 hz
    go_enter Tryd.func61, Tryd.ntmps61
    go_wp2_with fail
    go_quiet (fail)
    go_wp2_with fail
    refine wp_loop_rounds 1 ?_
    rw [rounds_succ]
    go_wp2_with fail
    refine (IT.out _).mono ?_
    rintro e x2 ⟨rfl, rfl⟩
    go_wp2_with fail
    go_ret2
    exact num_fin HEND.out (HBQ.out _)
end Go.Proofs.YtoejflnlkapkiaaDoor
/- Reference 42's numbers. -/
namespace Go.Proofs.YtoejflnlkapkiaaDoor
open Go.ChangeShapes Go.WideShapes Go.ChangeAt Go.RowKit
set_option linter.unusedVariables false
set_option linter.unusedSimpArgs false
set_option maxRecDepth 100000 in
set_option maxHeartbeats 8000000 in
theorem r42_numbers (v : Value) (ws : List (List UInt8)) (W : World) (h : RowS W v ws) (hn : ws.length ≤ 1000000) (hl : ∀ x ∈ ws, x.length ≤ 100000000) :
    Calls Tryd.prog 49 #[v] W fun e w' => ((∃ vs u, numsW ws = some vs ∧ e = .returned (.tuple #[u, .bool true]) ∧ Owns w' W.heap.size 3 .i64 u vs) ∨ (numsW ws = none ∧ e = .returned (.tuple #[.slice none 0 0, .bool false]))) ∧ Below W.heap.size W w' := by
  obtain ⟨p, c, rfl, hc, hx⟩ := h
  have HX := Lib.hid hx
  have HN := Lib.hid hn
  have HL := Lib.hid hl
  clear hx hn hl hc
  go_enter Tryd.func49, Tryd.ntmps49
  go_wp2_with fail
  go_loopw [4, 5, 6, 7] (fun u j _ _ wr => ∃ (k : Nat) (vs : List Int), j = .int .i64 k ∧ Hid (k ≤ ws.length) ∧ Hid (numsW (ws.take k) = some vs) ∧ Hid (Owns wr W.heap.size 3 .i64 u vs) ∧ Hid (Below W.heap.size W wr)) (fun _ j _ _ _ => ws.length - (intOf j).toNat)
  case atStart => exact ⟨0, [], rfl, Lib.hid (Nat.zero_le _), Lib.hid rfl, Lib.hid (Owns.nil _ _ _ _), Lib.hid (Below.refl _ _)⟩
  case round =>
    obtain ⟨k, vs, rfl, HK, HV, HO, HB⟩ := hrel
    obtain ⟨x1, rfl⟩ : ∃ w, w = wr := ⟨_, rfl⟩
    by_cases hk : k < ws.length
    · obtain ⟨x, hxk⟩ : ∃ x, ws[k]? = some x := ⟨_, List.getElem?_eq_getElem hk⟩
      rcases HX.out with h0 | ⟨b, o, rfl, hb, hcell⟩
      · rw [h0] at hk; cases hk
      have hc1 : x1.cell? ⟨b, o + k, none⟩ = some (.string ⟨x.toArray⟩) := (HB.out.cell (p := ⟨b, o + k, none⟩) hb).trans (hcell k x hxk)
      have HKL := Lib.hid hk
      have hkk : (k : Int) < (ws.length : Int) := by omega
      have hk0 : (0 : Int) ≤ (k : Int) := by omega
      have NB := Lib.hid (r42_number ⟨x.toArray⟩ (by have := HL.out x (List.mem_of_getElem? hxk); simpa [ByteArray.size] using this) x1)
      have WK := Lib.hid (show wrap64 ((k : Int) + 1) = ((k + 1 : Nat) : Int) by have := HN.out; simp only [wrap64]; omega)
      have HST := Lib.hid (numsW_take HV.out hxk)
      clear hxk hcell hb hk
      go_wp2_with fail
      refine NB.out.mono ?_
      rintro e x2 ⟨⟨m, rfl, hmv⟩, hb2⟩
      have HB2 := Lib.hid (HB.out.trans (hb2.mono HB.out.size))
      have HO2 := Lib.hid (HO.out.below hb2)
      have HMV := Lib.hid (show ∀ v, numW x = some v → m = v from hmv)
      clear hb2 hmv
      have e0 : numW (⟨x.toArray⟩ : ByteArray).data.toList = numW x := rfl
      rw [e0]
      clear e0
      cases hw : numW x with
      | none =>
        have HFIN := Lib.hid (show numsW ws = none by
          have h := HST.out
          rw [hw] at h
          exact numsW_none h)
        clear hw
        go_wp2_with fail
        go_ret2
        exact ⟨.inr ⟨HFIN.out, rfl⟩, HB2.out⟩
      | some z =>
        obtain rfl := HMV.out z hw
        have HW := Lib.hid hw
        have hsz := HB2.out.size
        have hkn : vs.length < 17592186044415 := by
          have h2 := HN.out
          have h1 := numsW_len HV.out
          rw [List.length_take] at h1
          omega
        obtain ⟨ua, uc, rfl, -, -, -⟩ := HO2.out.shape
        clear hw
        go_upto_region 8 with fail
        go_wp2_with (at_builtin; (refine append_one (T := 23) (E := 3) (k := .i64) (B := W.heap.size) (ys := vs) (y := m) Tryd.underlying23 info_i64 rfl _ _ rfl rfl HO2.out rfl hsz hkn ?_); intro v4 x4 hO4 hb4; have HO4 := Lib.hid hO4; have HB4 := Lib.hid hb4; clear hO4 hb4)
        go_roundw
        case rel => exact ⟨k + 1, vs ++ [m], by first | rw [WK.out] | simp, Lib.hid HKL.out, Lib.hid (by rw [HST.out, HW.out]; rfl), HO4, Lib.hid (HB2.out.trans HB4.out)⟩
        case measure => first | exact sc_meas' ws.length k HKL.out | (rw [WK.out]; exact sc_meas ws.length k HKL.out)
    · have h9 : k = ws.length := by have := HK.out; omega
      subst h9
      have hkk : ¬ (ws.length : Int) < (ws.length : Int) := by omega
      have HV2 := Lib.hid (show numsW ws = some vs by have h := HV.out; rwa [List.take_length] at h)
      go_wp2_with fail
      go_ret2
      exact ⟨.inl ⟨vs, HV2.out, _, rfl, HO.out⟩, HB.out⟩
end Go.Proofs.YtoejflnlkapkiaaDoor
/- Reference 42's half. -/
namespace Go.Proofs.YtoejflnlkapkiaaDoor
open Go.ChangeShapes Go.WideShapes Go.ChangeAt Go.RowKit
set_option linter.unusedVariables false
set_option linter.unusedSimpArgs false
def halfN (c : UInt8) : Nat := if 48 ≤ c.toNat ∧ c.toNat ≤ 57 then c.toNat - 48 else if 97 ≤ c.toNat ∧ c.toNat ≤ 102 then c.toNat - 87 else 16
theorem half_lt : ∀ c : UInt8, halfN c ≤ 16 := by
  intro c; unfold halfN; split
  · omega
  · split <;> omega
theorem hexD_nat : ∀ k : Fin 16, (hexD k.1).toNat = if k.1 < 10 then 48 + k.1 else 87 + k.1 := by decide +kernel
theorem half_hit {c : UInt8} {k : Nat} (hk : k < 16) (h : hexD k = c) : halfN c = k := by
  have e := hexD_nat ⟨k, hk⟩
  simp only at e
  subst h
  by_cases h10 : k < 10
  · rw [if_pos h10] at e
    unfold halfN
    rw [e, if_pos (by omega)]; omega
  · rw [if_neg h10] at e
    unfold halfN
    rw [e, if_neg (by omega), if_pos (by omega)]; omega
theorem half_none {c : UInt8} (h : ∀ k, k < 16 → hexD k ≠ c) : halfN c = 16 := by
  unfold halfN
  split
  · next hc =>
    exfalso
    have e := hexD_nat ⟨c.toNat - 48, by omega⟩
    simp only at e
    rw [if_pos (by omega)] at e
    exact h (c.toNat - 48) (by omega) (UInt8.toNat_inj.1 (by rw [e]; omega))
  · split
    · next h1 hc =>
      exfalso
      have e := hexD_nat ⟨c.toNat - 87, by omega⟩
      simp only at e
      rw [if_neg (by omega)] at e
      exact h (c.toNat - 87) (by omega) (UInt8.toNat_inj.1 (by rw [e]; omega))
    · rfl
set_option maxRecDepth 100000 in
set_option maxHeartbeats 4000000 in
theorem r42_half (c : UInt8) (W : World) : Calls Tryd.prog 77 #[.int .u8 (c.toNat : Int)] W fun e w' => e = .returned (.int .i64 (halfN c)) ∧ Below W.heap.size W w' := by
  go_enter Tryd.func77, Tryd.ntmps77
  go_wp2_with fail
  go_loopw [2, 4] (fun _ j wr => ∃ k : Nat, j = .int .i64 k ∧ Hid (k ≤ 16) ∧ Hid (∀ q, q < k → hexD q ≠ c) ∧ Hid (Below W.heap.size W wr)) (fun _ j _ => 16 - (intOf j).toNat)
  case atStart => exact ⟨0, rfl, Lib.hid (Nat.zero_le _), Lib.hid (fun q hq => absurd hq (Nat.not_lt_zero _)), Lib.hid (Below.refl _ _)⟩
  case round =>
    obtain ⟨k, rfl, HK, HF, HB⟩ := hrel
    obtain ⟨x1, rfl⟩ : ∃ w, w = wr := ⟨_, rfl⟩
    by_cases hk : k < 16
    · have hki : (k : Int) < 16 := by omega
      have hk0 : (0 : Int) ≤ (k : Int) := by omega
      have dk : decide ((k : Int) < 16) = true := decide_eq_true hki
      have dk' : decide (k < 16) = true := decide_eq_true hk
      have HKL := Lib.hid hk
      have E1 := hex_at k hk
      have WK := Lib.hid (show wrap64 ((k : Int) + 1) = ((k + 1 : Nat) : Int) by simp only [wrap64]; omega)
      unfold hexes at E1
      by_cases he : hexD k = c
      · have HH := Lib.hid (half_hit hk he)
        have eb : (((hexD k).toNat : Int) == (c.toNat : Int)) = true := by rw [he]; simp
        have eb' : ((hexD k).toNat == c.toNat) = true := by rw [he]; simp
        go_wp2_with fail
        try rw [E1]
        go_wp2_with fail
        go_ret
        exact ⟨by rw [HH.out]; rfl, HB.out⟩
      · have hn : ¬ (hexD k).toNat = c.toNat := fun e => he (UInt8.toNat_inj.1 e)
        have eb : (((hexD k).toNat : Int) == (c.toNat : Int)) = false := by rw [beq_eq_false_iff_ne]; omega
        have eb' : ((hexD k).toNat == c.toNat) = false := by rw [beq_eq_false_iff_ne]; exact hn
        have HF2 := Lib.hid (show ∀ q, q < k + 1 → hexD q ≠ c from fun q hq => by
          by_cases hqk : q = k
          · rw [hqk]; exact he
          · exact HF.out q (by omega))
        clear hn he
        go_wp2_with fail
        try rw [E1]
        go_wp2_with fail
        go_roundw
        case rel => exact ⟨k + 1, by first | rw [WK.out] | simp, Lib.hid HKL.out, HF2, HB⟩
        case measure => first | exact sc_meas' 16 k HKL.out | (rw [WK.out]; exact sc_meas 16 k HKL.out)
    · have h9 : k = 16 := by have := HK.out; omega
      subst h9
      have HH := Lib.hid (half_none HF.out)
      go_wp2_with fail
      go_ret
      exact ⟨by rw [HH.out]; rfl, HB.out⟩
end Go.Proofs.YtoejflnlkapkiaaDoor
/- Reference 42's unhex. -/
namespace Go.Proofs.YtoejflnlkapkiaaDoor
open Go.ChangeShapes Go.WideShapes Go.ChangeAt Go.RowKit
set_option linter.unusedVariables false
set_option linter.unusedSimpArgs false
/-- The bytes that digits are, or none. -/
def unB : List UInt8 → Option (List UInt8)
  | [] => some []
  | [_] => none
  | a :: b :: r => if halfN a < 16 ∧ halfN b < 16 then (unB r).map (UInt8.ofNat (16 * halfN a + halfN b) :: ·) else none
theorem half_hexD : ∀ k : Fin 16, halfN (hexD k.1) = k.1 := by decide +kernel
theorem unB_hex : ∀ l : List UInt8, unB ((l.map fun b => [hexD (b.toNat / 16), hexD (b.toNat % 16)]).flatten) = some l
  | [] => rfl
  | b :: r => by
    have hb : b.toNat < 256 := UInt8.toNat_lt _
    have h1 := half_hexD ⟨b.toNat / 16, by omega⟩
    have h2 := half_hexD ⟨b.toNat % 16, by omega⟩
    simp only at h1 h2
    show unB (hexD (b.toNat / 16) :: hexD (b.toNat % 16) :: ((r.map fun b => [hexD (b.toNat / 16), hexD (b.toNat % 16)]).flatten)) = _
    unfold unB
    rw [h1, h2, if_pos ⟨by omega, by omega⟩, unB_hex r]
    have e : UInt8.ofNat (16 * (b.toNat / 16) + b.toNat % 16) = b := by
      rw [Nat.div_add_mod]; exact UInt8.ofNat_toNat
    simp [e]
theorem unB_odd : ∀ l : List UInt8, l.length % 2 = 1 → unB l = none
  | [], h => by simp at h
  | [_], _ => rfl
  | a :: b :: r, h => by
    unfold unB
    rw [unB_odd r (by simp only [List.length_cons] at h; omega)]
    split <;> rfl
theorem unB_bad : ∀ {l : List UInt8} {i : Nat} {a b : UInt8}, l[2 * i]? = some a → l[2 * i + 1]? = some b → ¬ (halfN a < 16 ∧ halfN b < 16) → unB l = none
  | x :: y :: r, 0, a, b, ha, hb, h => by
    obtain rfl : x = a := by simpa using ha
    obtain rfl : y = b := by simpa using hb
    unfold unB; rw [if_neg h]
  | x :: y :: r, i + 1, a, b, ha, hb, h => by
    have h1 := unB_bad (l := r) (i := i) (a := a) (b := b) (by rw [← ha]; rfl) (by rw [← hb]; rfl) h
    unfold unB; rw [h1]
    split <;> rfl
theorem unB_snoc : ∀ {l : List UInt8} {m : List UInt8} {a b : UInt8}, unB l = some m → halfN a < 16 → halfN b < 16 → unB (l ++ [a, b]) = some (m ++ [UInt8.ofNat (16 * halfN a + halfN b)])
  | [], m, a, b, h, ha, hb => by
    obtain rfl := Option.some.inj h
    show unB [a, b] = _
    unfold unB; rw [if_pos ⟨ha, hb⟩]; rfl
  | [x], m, a, b, h, ha, hb => by cases h
  | x :: y :: r, m, a, b, h, ha, hb => by
    unfold unB at h
    split at h
    · next hc =>
      cases hr : unB r with
      | none => rw [hr] at h; cases h
      | some q =>
        rw [hr] at h
        obtain rfl := Option.some.inj h
        show unB (x :: y :: (r ++ [a, b])) = _
        unfold unB
        rw [if_pos hc, unB_snoc hr ha hb]; rfl
    · cases h
theorem unB_take {l m : List UInt8} {i : Nat} {a b : UInt8} (h : unB (l.take (2 * i)) = some m) (ha : l[2 * i]? = some a) (hb : l[2 * i + 1]? = some b) (h1 : halfN a < 16) (h2 : halfN b < 16) :
    unB (l.take (2 * (i + 1))) = some (m ++ [UInt8.ofNat (16 * halfN a + halfN b)]) := by
  have e : l.take (2 * (i + 1)) = l.take (2 * i) ++ [a, b] := by
    rw [show 2 * (i + 1) = 2 * i + 1 + 1 by omega, List.take_add_one, List.take_add_one, ha, hb]; simp
  rw [e]; exact unB_snoc h h1 h2
theorem unB_len : ∀ {l m : List UInt8}, unB l = some m → 2 * m.length = l.length
  | [], m, h => by obtain rfl := Option.some.inj h; rfl
  | [x], m, h => by cases h
  | x :: y :: r, m, h => by
    unfold unB at h
    split at h
    · cases hr : unB r with
      | none => rw [hr] at h; cases h
      | some q =>
        rw [hr] at h
        obtain rfl := Option.some.inj h
        have := unB_len hr
        simp only [Option.map, List.length_cons] at *; omega
    · cases h
end Go.Proofs.YtoejflnlkapkiaaDoor
