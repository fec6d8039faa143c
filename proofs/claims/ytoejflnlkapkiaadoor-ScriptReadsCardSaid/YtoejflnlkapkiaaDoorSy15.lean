/- Put together by program (merge2.py): Sqj She Sib. -/
import Derived.Lib.AppendStr
import Derived.Laws.BytesArg
import Derived.Shelf.Small.Strs
import Derived.Test.YtoejflnlkapkiaaDoorSy7
import Derived.Test.YtoejflnlkapkiaaDoorSy10
import Derived.Test.YtoejflnlkapkiaaDoorSy14
/- script.add: the first line. -/
namespace Go.Proofs.YtoejflnlkapkiaaDoor
open Go.ChangeShapes Go.WideShapes Go.ChangeAt Go.RowKit
set_option linter.unusedVariables false
set_option linter.unusedSimpArgs false
set_option maxRecDepth 100000 in
set_option maxHeartbeats 16000000 in
theorem sc_add1 (B b : Nat) (s : Sc) (v : Value) (f : List UInt8) (r : List (List UInt8)) (W : World) (hS : ScS B b W s) (h : RowS W v (f :: r)) (hn : r.length ≤ 900000) (hl : ∀ x ∈ r, x.length ≤ 1000000) (hE : Evs W) (hT : Lib.TabIs Tryd.prog W "internal/strconv.uint64pow10" .u64 Lib.pow10Tab) :
    Calls Tryd.prog 28 #[.pointer (some ⟨b, 0, none⟩), .int .i64 1, v] W (AddOk B b (addN s 1 (f :: r)) W) := by
  obtain ⟨cv, pv, tv, us, ul, L, hS⟩ := hS
  have HS := Lib.hid hS
  have HBW := Lib.hid (show b < W.heap.size by have := hS.lt; have := hS.sz; omega)
  obtain ⟨p, c, rfl, hc, hx⟩ := h
  rcases hx with hx | ⟨gb, go, rfl, hgb, hcell⟩
  · cases hx
  have hf := hcell 0 f rfl
  rw [Nat.add_zero] at hf
  obtain ⟨g, hg⟩ : ∃ g : ByteArray, ⟨f.toArray⟩ = g := ⟨_, rfl⟩
  rw [hg] at hf
  have HSF := Lib.hid (show g.data.toList = f by rw [← hg])
  have hfd : W.drew.cell? ⟨gb, go, none⟩ = some (.string g) := hf
  have hlen : (f :: r).length = r.length + 1 := rfl
  rw [hlen] at hc ⊢
  have HN := Lib.hid hn
  have HL := Lib.hid hl
  have HE := Lib.hid hE
  have HT_ := Lib.hid hT
  have h1n : (1 : Int) ≤ ((r.length + 1 : Nat) : Int) := by omega
  have h0n : (0 : Int) < ((r.length + 1 : Nat) : Int) := by omega
  have hcase := RowS.rest (c := c) rfl hc hgb hcell
  clear hcell hn hl hE hT hg hlen hS hgb hc
  rcases hcase with ⟨hu, rfl, hr0, -⟩ | ⟨hu, hc1⟩
  all_goals
    have HRS := Lib.hid hu
    have IC := Lib.hid (sc_ints _ r W.drew (HRS.out.below (Below.refl _ _).drew) (by have := HN.out; omega) (fun z hz => Nat.le_trans (HL.out z hz) (by omega)) (HE.out.below (Below.refl _ _).drew) (pow10_bel HT_.out ((Below.refl W.heap.size W).drew)))
    clear hu
    go_enter Tryd.func28, Tryd.ntmps28
    go_wp2_with fail
    go_region
    obtain ⟨wd, hwd⟩ : ∃ wd, W.drew = wd := ⟨_, rfl⟩
    have HBD := Lib.hid (show Below W.heap.size W wd by rw [← hwd]; exact (Below.refl _ _).drew)
    rw [hwd] at IC ⊢
    clear hwd hf hfd
    go_wp2_with fail
    refine IC.out.mono ?_
    rintro e x3 ⟨hi, hb3⟩
    have HB3 := Lib.hid (HBD.out.trans (hb3.mono HBD.out.size))
    have BX3 := Lib.hid (HS.out.below HB3.out)
    clear hb3
    obtain ⟨m0, m1, m2, m3, m4⟩ := sc_cells5 BX3.out.box
    obtain ⟨f0, f1, f2, f3, f4⟩ := frz5 BX3.out.box
    have hq1 : (g.toList == [112, 108, 97, 121]) = decide (f = (plW).data.toList) := str_eq3 HSF.out plW
    have HBB := Lib.hid (HB3.out.mono (Nat.le_of_lt HBW.out))
    rcases hi with ⟨vs, u, hv, rfl, ho⟩ | ⟨hv, rfl⟩
    · by_cases hfw : f = plW.data.toList
      · have hq2 : decide (f = (plW).data.toList) = true := decide_eq_true hfw
        rw [hq2] at hq1
        clear hq2
        by_cases h2 : vs.length = 2
        · obtain ⟨a, c2, rfl⟩ : ∃ a b, vs = [a, b] := by
            match vs, h2 with
            | [a, b], _ => exact ⟨a, b, rfl⟩
          have HNO := Lib.hid (show addN s 1 (f :: r) = some { s with st := a, rm := c2 } by
            simp only [addN, hv, hfw]
            simp)
          have hi64 := numsW_i64 hv
          have HI := Lib.hid (show i64r a ∧ i64r c2 from ⟨hi64 a (by simp), hi64 c2 (by simp)⟩)
          obtain ⟨qa, qc, rfl, hrd, -, -⟩ := ho.shape
          rcases hrd with hrd | ⟨bq, oq, rfl, hbq, hcq⟩
          · cases hrd
          have z0 := hcq 0 (by simp)
          have z1 := hcq 1 (by simp)
          simp only [List.getD_cons_zero, List.getD_cons_succ, Nat.add_zero] at z0 z1
          have hne : bq ≠ b := by have h1 := (World.ownsRow.lt ho bq rfl).1; have h2 := HBD.out.size; have h3 := HBW.out; omega
          have hne' : b ≠ bq := fun e => hne e.symm
          have HBX := Lib.hid (show ScB B b ((x3.setCell ⟨b, 0, none⟩ (.int .i64 a)).setCell ⟨b, 1, none⟩ (.int .i64 c2)) { s with st := a, rm := c2 } cv pv tv us ul L from
            have hE2 : Ex (fun t => B ≤ t) W ((x3.setCell ⟨b, 0, none⟩ (.int .i64 a)).setCell ⟨b, 1, none⟩ (.int .i64 c2)) := (HS.out.exb HB3.out 0 _).trans (Ex.set (by have := HS.out.lt; omega))
            HS.out.set hE2 (by have h1 := row_setC (o := 0) BX3.out.box (.int .i64 a); exact row_setC (o := 1) h1 _) rfl (HS.out.p.keep (hE2.mono (fun _ _ hk => hk.1))) (HS.out.t.keep (hE2.mono (fun _ _ hk => hk.1))) HI.out)
          have HB4 := Lib.hid (show Below b W ((x3.setCell ⟨b, 0, none⟩ (.int .i64 a)).setCell ⟨b, 1, none⟩ (.int .i64 c2)) from (HBB.out.setCell (p := ⟨b, 0, none⟩) (Nat.le_refl _) _).setCell (p := ⟨b, 1, none⟩) (Nat.le_refl _) _)
          clear ho hv hcq hbq h2 hfw hi64
          go_wp2_with fail
          go_region
          all_goals
            go_wp2_with fail
            go_ret
            exact ⟨.inl ⟨_, HNO.out, rfl, _, _, _, _, _, _, HBX.out.below (Below.refl _ _).drew⟩, HB4.out.drew⟩
        · have hd : ((((vs.length : Nat) : Int)) != 2) = true := by simp; omega
          have HNO := Lib.hid (show addN s 1 (f :: r) = none by
            simp only [addN, hv]
            match vs, h2 with
            | [], _ => rfl
            | [_], _ => rfl
            | [_, _], h => exact absurd rfl h
            | _ :: _ :: _ :: _, _ => rfl)
          obtain ⟨qa, qc, rfl, hrd, -, -⟩ := ho.shape
          clear ho hv h2 hrd hfw
          go_wp2_with fail
          go_ret
          exact ⟨.inr ⟨HNO.out, rfl, _, _, _, _, _, BX3.out.box⟩, HBB.out⟩
      · have hq2 : decide (f = (plW).data.toList) = false := decide_eq_false hfw
        have HNO := Lib.hid (show addN s 1 (f :: r) = none by
          have e : addN s 1 (f :: r) = match numsW r with | some [a, b] => if f = plW.data.toList then some { s with st := a, rm := b } else none | _ => none := rfl
          rw [e, hv]
          match vs with
          | [] => rfl
          | [_] => rfl
          | [_, _] => exact if_neg hfw
          | _ :: _ :: _ :: _ => rfl)
        rw [hq2] at hq1
        obtain ⟨qa, qc, rfl, hrd, -, -⟩ := ho.shape
        clear ho hv hrd hq2 hfw
        go_wp2_with fail
        go_ret
        exact ⟨.inr ⟨HNO.out, rfl, _, _, _, _, _, BX3.out.box⟩, HBB.out⟩
    · have HNO := Lib.hid (show addN s 1 (f :: r) = none by simp only [addN, hv]; simp)
      clear hv
      by_cases hfw : f = plW.data.toList
      · have hq2 : decide (f = (plW).data.toList) = true := decide_eq_true hfw
        rw [hq2] at hq1
        clear hq2 hfw
        go_wp2_with fail
        go_ret
        exact ⟨.inr ⟨HNO.out, rfl, _, _, _, _, _, BX3.out.box⟩, HBB.out⟩
      · have hq2 : decide (f = (plW).data.toList) = false := decide_eq_false hfw
        rw [hq2] at hq1
        clear hq2 hfw
        go_wp2_with fail
        go_ret
        exact ⟨.inr ⟨HNO.out, rfl, _, _, _, _, _, BX3.out.box⟩, HBB.out⟩
end Go.Proofs.YtoejflnlkapkiaaDoor
/- Reference 42's unhex: the walk. -/
namespace Go.Proofs.YtoejflnlkapkiaaDoor
open Go.ChangeShapes Go.WideShapes Go.ChangeAt Go.RowKit
set_option linter.unusedVariables false
set_option linter.unusedSimpArgs false
theorem info_u8s : (Tryd.prog.info? 5).map (fun i => (i.zero, i.size, i.bytes)) = some (some (.int .u8 0), 1, 1) := by kernel_rfl
theorem info_u8c : (Tryd.prog.info? 5).map (fun i => (i.zero.map (fun z => z.cells.size), i.size, i.bytes)) = some (some 1, 1, 1) := by kernel_rfl
def b8 (l : List UInt8) : List Int := l.map fun b => (b.toNat : Int)
theorem b8_len (l : List UInt8) : (b8 l).length = l.length := by unfold b8; simp
theorem b8_snoc (l : List UInt8) (c : UInt8) : b8 l ++ [(c.toNat : Int)] = b8 (l ++ [c]) := by unfold b8; simp
theorem nums8 (l : List UInt8) : strOfNums (b8 l) = ⟨l.toArray⟩ := by
  apply ba_ext
  unfold b8
  rw [strOfNums_data, List.map_map]
  show _ = l
  conv => rhs; rw [← List.map_id l]
  apply List.map_congr_left
  intro b _
  show UInt8.ofNat ((b.toNat : Int).toNat) = b
  rw [Int.toNat_natCast]
  exact UInt8.toNat_inj.1 (by rw [UInt8.toNat_ofNat']; have := b.toNat_lt; omega)
theorem conv_nil (w : World) : (convert 53 9 (.slice none 0 0)).run Tryd.prog w = .ok (.string ⟨#[]⟩) w := by first | kernel_rfl | (go_simp; done) | simp [convert, Tryd.underlying53, Tryd.underlying9]
/-- A row's bytes as a text. -/
theorem own_text {w : World} {B : Nat} {v : Value} {l : List UInt8} (h : Owns w B 5 .u8 v (b8 l)) : (convert 53 9 v).run Tryd.prog w = .ok (.string ⟨l.toArray⟩) w := by
  obtain ⟨hl, h | ⟨g, cap, cur, rfl, hb, hh, hn, hm, hs, ht⟩⟩ := h
  · obtain ⟨rfl, hn⟩ := h
    have e : l = [] := List.length_eq_zero_iff.1 (by rw [← b8_len]; exact hn)
    subst e
    exact conv_nil w
  · have := run_convert_bytes_arg (P := Tryd.prog) w 53 5 Tryd.underlying53 Tryd.underlying5 g 0 (b8 l).length cap (b8 l) rfl (fun i hi => by
      rw [cell_of_row w g (0 + i) _ _ _ hh]
      have : cur[0 + i]? = ((b8 l).map (Value.int .u8))[i]? := by
        rw [← ht, List.getElem?_take]
        simp [hi]
      rw [this]
      simp [List.getD, hi]) 9 Tryd.underlying9
    rw [this, nums8]
def unS (s : ByteArray) : ByteArray := ⟨((unB s.data.toList).getD []).toArray⟩
def UnOk (s : ByteArray) (W : World) (e : Ending) (w' : World) : Prop := e = .returned (.tuple #[.string (unS s), .bool (unB s.data.toList).isSome]) ∧ Below W.heap.size W w'
theorem UnOk.bad {s : ByteArray} {W w' : World} (h : unB s.data.toList = none) (hb : Below W.heap.size W w') : UnOk s W (.returned (.tuple #[.string ⟨#[]⟩, .bool false])) w' := by
  refine ⟨?_, hb⟩
  unfold unS
  rw [h]; rfl
theorem UnOk.good {s : ByteArray} {W w' : World} {l : List UInt8} (h : unB s.data.toList = some l) (hb : Below W.heap.size W w') : UnOk s W (.returned (.tuple #[.string ⟨l.toArray⟩, .bool true])) w' := by
  refine ⟨?_, hb⟩
  unfold unS
  rw [h]; rfl
set_option maxRecDepth 100000 in
set_option maxHeartbeats 8000000 in
theorem r42_unhex (s : ByteArray) (hl : s.size ≤ 10000000) (W : World) : Calls Tryd.prog 62 #[.string s] W (UnOk s W) := by
  have HL := Lib.hid hl
  have HSZ := Lib.hid (show s.data.toList.length = s.size from (Lib.size_eq s).symm)
  by_cases hodd : s.size % 2 = 1
  · have hi : (s.size : Int) % 2 = 1 := by omega
    have ht : (s.size : Int).tmod 2 = 1 := by rw [Int.tmod_eq_emod_of_nonneg (by omega)]; omega
    have HBAD := Lib.hid (unB_odd s.data.toList (by rw [HSZ.out]; exact hodd))
    clear hl hodd
    go_enter Tryd.func62, Tryd.ntmps62
    go_wp2_with fail
    go_ret2
    exact UnOk.bad HBAD.out (Below.refl _ _)
  · have hi : (s.size : Int) % 2 = 0 := by omega
    have ht : (s.size : Int).tmod 2 = 0 := by rw [Int.tmod_eq_emod_of_nonneg (by omega)]; omega
    have HEV := Lib.hid (show s.size % 2 = 0 by omega)
    have HF := Lib.hid (fun (c : UInt8) (w : World) => r42_half c w)
    clear hl hodd
    go_enter Tryd.func62, Tryd.ntmps62
    go_wp2_with fail
    go_loopw [4, 5, 6, 7] (fun u j _ _ wr => ∃ (q : Nat) (l : List UInt8), j = .int .i64 (2 * q : Nat) ∧ Hid (2 * q ≤ s.size) ∧ Hid (unB (s.data.toList.take (2 * q)) = some l) ∧ Hid (Owns wr W.heap.size 5 .u8 u (b8 l)) ∧ Hid (Below W.heap.size W wr)) (fun _ j _ _ _ => s.size - (intOf j).toNat)
    case atStart => exact ⟨0, [], rfl, Lib.hid (Nat.zero_le _), Lib.hid rfl, Lib.hid (Owns.nil _ _ _ _), Lib.hid (Below.refl _ _)⟩
    case round =>
      obtain ⟨q, l, rfl, HQ, HV, HO, HB⟩ := hrel
      obtain ⟨x1, rfl⟩ : ∃ w, w = wr := ⟨_, rfl⟩
      obtain ⟨i, hi2⟩ : ∃ i, 2 * q = i := ⟨_, rfl⟩
      have HIQ := Lib.hid hi2
      rw [hi2] at HQ HV ⊢
      clear hi2
      by_cases hq : i < s.size
      · have h1 : i + 1 < s.size := by have h2 := HEV.out; have h3 := HIQ.out; omega
        have hqi : (i : Int) < (s.size : Int) := by omega
        have hq0 : (0 : Int) ≤ (i : Int) := by omega
        obtain ⟨i1, hi1⟩ : ∃ i1, i + 1 = i1 := ⟨_, rfl⟩
        have WQ1 : wrap64 ((i : Int) + 1) = (i1 : Int) := by have := HL.out; simp only [wrap64]; omega
        rw [hi1] at h1
        have HI1 := Lib.hid hi1
        have WQ2 : IntKind.i64.wrap ((i : Int) + 1) = (i1 : Int) := by rw [IntWalk.i64_in _ (by have := HL.out; omega)]; omega
        have h11 : (i1 : Int) < (s.size : Int) := by omega
        have h10 : (0 : Int) ≤ (i1 : Int) := by omega
        have WQ := Lib.hid (show wrap64 ((i : Int) + 2) = ((i + 2 : Nat) : Int) by have := HL.out; simp only [wrap64]; omega)
        have H1 := Lib.hid (fun w : World => r42_half (s[i]'hq) w)
        have H2 := Lib.hid (fun w : World => r42_half (s[i1]'h1) w)
        obtain ⟨hat, -⟩ := bt_list s i hq
        obtain ⟨hbt, -⟩ := bt_list s i1 h1
        have HA := Lib.hid hat
        have HBT := Lib.hid hbt
        have HHA := Lib.hid (half_lt (s[i]'hq))
        have HHB := Lib.hid (half_lt (s[i1]'h1))
        clear hat hbt hi1
        go_wp2_with fail
        go_region_with (first
          | (go_at_call 77; with_reducible refine (H1.out x1.drew).mono ?_; rintro e x2 ⟨rfl, hb2⟩; have HBa := Lib.hid ((Below.refl x1.heap.size x1).drew.trans (hb2.mono ((Below.refl x1.heap.size x1).drew).size)); clear hb2)
          | (go_at_call 77; with_reducible refine (H2.out x2).mono ?_; rintro e x3 ⟨rfl, hb3⟩; have HBb := Lib.hid (HBa.out.trans (hb3.mono HBa.out.size)); clear hb3))
        all_goals
          obtain ⟨a, ha⟩ : ∃ a, halfN (s[i]'hq) = a := ⟨_, rfl⟩
          obtain ⟨b, hb⟩ : ∃ b, halfN (s[i1]'h1) = b := ⟨_, rfl⟩
          have HO3 := Lib.hid (HO.out.below HBb.out)
          have HB3 := Lib.hid (HB.out.trans (HBb.out.mono HB.out.size))
          have haL : a ≤ 16 := by rw [← ha]; exact HHA.out
          have hbL : b ≤ 16 := by rw [← hb]; exact HHB.out
          rw [ha, hb]
          clear WQ1 WQ2 HBa HBb H1 H2
          by_cases hab : a < 16 ∧ b < 16
          · obtain ⟨ha16, hb16⟩ := hab
            have da : decide ((15 : Int) < (a : Int)) = false := decide_eq_false (by omega)
            have da' : decide (15 < a) = false := decide_eq_false (by omega)
            have db : decide ((15 : Int) < (b : Int)) = false := decide_eq_false (by omega)
            have db' : decide (15 < b) = false := decide_eq_false (by omega)
            have HT := Lib.hid (unB_take (i := q) (by rw [HIQ.out]; exact HV.out) (by rw [HIQ.out]; exact HA.out) (by rw [HIQ.out, HI1.out]; exact HBT.out) (by rw [ha]; exact ha16) (by rw [hb]; exact hb16))
            rw [ha, hb] at HT
            obtain ⟨c, hc⟩ : ∃ c, UInt8.ofNat (16 * a + b) = c := ⟨_, rfl⟩
            have hcn : c.toNat = 16 * a + b := by rw [← hc, UInt8.toNat_ofNat']; omega
            rw [hc] at HT
            have HC := Lib.hid (show (16 * (a : Int) + (b : Int)) = (c.toNat : Int) by omega)
            have hsz := HB3.out.size
            have hkn : (b8 l).length < 10000000 := by
              have h1 := unB_len HV.out
              have h2 := HL.out
              rw [b8_len]
              rw [List.length_take] at h1
              omega
            obtain ⟨ua, uc, rfl, -, -, -⟩ := HO3.out.shape
            clear ha hb hc hcn haL hbL
            go_upto_region 10 with fail
            go_wp2_with (at_builtin; refine append_gL (T := 53) (E := 5) (sz := 1) (bys := 1) (B := W.heap.size) (n := (b8 l).length) (xs := (b8 l).map (Value.int .u8)) (news := [.int .u8 (16 * (a : Int) + (b : Int))]) Tryd.underlying53 info_u8c (by decide) (by decide) rfl _ _ rfl rfl HO3.out rfl hsz hkn rfl (by intro u hu; simp at hu; subst hu; rfl) ?_; intro v4 x4 hO4 hb4; have HO4 := Lib.hid (owns_snoc hO4); have HB4 := Lib.hid hb4; clear hO4 hb4)
            go_roundw
            case rel => exact ⟨q + 1, l ++ [c], by rw [WQ.out, ← HIQ.out]; rfl, Lib.hid (by have h1 := HI1.out; have h2 := HIQ.out; have h3 := h1; omega), Lib.hid HT.out, Lib.hid (by rw [← b8_snoc, ← HC.out]; exact HO4.out), Lib.hid (HB3.out.trans HB4.out)⟩
            case measure => rw [WQ.out]; simp only [intOf]; omega
          · have HBAD := Lib.hid (show unB s.data.toList = none from unB_bad (i := q) (by rw [HIQ.out]; exact HA.out) (by rw [HIQ.out, HI1.out]; exact HBT.out) (by rw [ha, hb]; exact hab))
            by_cases hA : a < 16
            · have da : decide ((15 : Int) < (a : Int)) = false := decide_eq_false (by omega)
              have da' : decide (15 < a) = false := decide_eq_false (by omega)
              have db : decide ((15 : Int) < (b : Int)) = true := decide_eq_true (by omega)
              have db' : decide (15 < b) = true := decide_eq_true (by omega)
              clear hab ha hb
              go_wp2_with fail
              go_ret2
              exact UnOk.bad HBAD.out HB3.out
            · have da : decide ((15 : Int) < (a : Int)) = true := decide_eq_true (by omega)
              have da' : decide (15 < a) = true := decide_eq_true (by omega)
              clear hab ha hb
              go_wp2_with fail
              go_ret2
              exact UnOk.bad HBAD.out HB3.out
      · have h9 : i = s.size := by have := HQ.out; omega
        subst h9
        have hqi : ¬ (s.size : Int) < (s.size : Int) := by omega
        have HV2 := Lib.hid (show unB s.data.toList = some l by have h := HV.out; rw [← HSZ.out] at h; rwa [List.take_length] at h)
        obtain ⟨ua, uc, rfl, -, -, -⟩ := HO.out.shape
        have CT := own_text HO.out
        have CD := own_text (HO.out.below ((Below.refl x1.heap.size x1).drew))
        go_wp2_with fail
        go_ret2
        exact UnOk.good HV2.out HB.out
end Go.Proofs.YtoejflnlkapkiaaDoor
/- The library's strings.IndexByte at this program (this seat alone: its numbers). -/
namespace Go.Proofs.YtoejflnlkapkiaaDoor
open Go.Shelf Go.ChangeShapes Go.WideShapes Go.ChangeAt Go.RowKit
def lays137_ren : Go.Shelf.Ren := ⟨fun | 137 => 75 | 217 => 93 | 266 => 105 | n => n, fun | 9 => 9 | 5 => 5 | 3 => 3 | n => n, fun | n => n⟩
theorem lays137 : Go.Proofs.Lays.n137 Tryd.prog lays137_ren := {
  mixed := by kernel_rfl
  f137 := Tryd.func75.trans (congrArg some (by kernel_rfl))
  f217 := Tryd.func93.trans (congrArg some (by kernel_rfl))
  f266 := Tryd.func105.trans (congrArg some (by kernel_rfl))
  t3 := Tryd.underlying3
  a3 := Tryd.isAgg3
  z3 := Tryd.sizeOf3
  v3 := Tryd.zeroValue3
  t5 := Tryd.underlying5
  a5 := Tryd.isAgg5
  z5 := Tryd.sizeOf5
  v5 := Tryd.zeroValue5
  t9 := Tryd.underlying9
  a9 := Tryd.isAgg9
  z9 := Tryd.sizeOf9
  v9 := Tryd.zeroValue9 }
open Go.RowKit in
theorem c_IndexByte (s : ByteArray) (c : Int) (w : World) :
    Calls Tryd.prog 75 #[.string s, .int .u8 c] w fun e w' => e = .returned (.int .i64 (Lib.indexByte s.data.toList c.toNat.toUInt8)) ∧ w' = w := Any.strings_IndexByte lays137 s c w
end Go.Proofs.YtoejflnlkapkiaaDoor
