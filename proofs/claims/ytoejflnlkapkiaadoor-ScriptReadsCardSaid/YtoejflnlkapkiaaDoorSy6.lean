/- Put together by program (merge2.py): Sce Scf Lexc. -/
import Derived.Test.YtoejflnlkapkiaaDoorSy1
import Derived.Test.YtoejflnlkapkiaaDoorSy5
/- script.Print. -/
namespace Go.Proofs.YtoejflnlkapkiaaDoor
open Go.ChangeShapes Go.WideShapes Go.ChangeAt Go.RowKit
set_option linter.unusedVariables false
set_option linter.unusedSimpArgs false
def bigS (l : List UInt8) : ByteArray := if l.length ≤ 1048576 then ⟨l.toArray⟩ else ⟨#[]⟩
def bigE (l : List UInt8) : Int := if l.length ≤ 1048576 then 0 else 12
set_option maxRecDepth 100000 in
set_option maxHeartbeats 16000000 in
theorem sc_print (st rm : Int) (cv : Value) (cs : List (List Cl)) (pp : Option Addr) (pn pk : Nat) (ps : List Int) (tp : Option Addr) (tn tk : Nat) (ts : List Int) (W : World) (hst : i64r st) (hrm : i64r rm)
    (hC : RowCC W cv cs) (hcl : cs.length ≤ 1000000) (hcc : ∀ l ∈ cs, l.length ≤ 1000000) (hP : RowI W pp pn ps) (hpn : pn ≤ 5000000) (hQ : RowI W tp tn ts) (htn : tn ≤ 5000000) (hlen : (scT st rm ps ts cs).length ≤ 900000000)
    (hk : ∀ l ∈ cs, ∀ c ∈ l, (wdK c.kd).data.toList ≠ []) (hT : Lib.TabIs Tryd.prog W "internal/strconv.uint64pow10" .u64 Lib.pow10Tab)
    (hw : ∀ l ∈ cs, ∀ c ∈ l, ∀ (x : Value) (w : World), c.ok → RowX w x c.xs → Lib.TabIs Tryd.prog w "internal/strconv.uint64pow10" .u64 Lib.pow10Tab → Calls Tryd.prog 22 #[c.val x] w (Words w ((wsC c).map (Value.string ·)))) :
    Calls Tryd.prog 9 #[.agg #[.int .i64 st, .int .i64 rm, cv, .slice pp pn pk, .slice tp tn tk]] W fun e w' => e = .returned (.tuple #[.string (bigS (scT st rm ps ts cs)), .int .i64 (bigE (scT st rm ps ts cs))]) ∧ Below W.heap.size W w' := by
  obtain ⟨cp, cc, rfl, -⟩ := id hC
  obtain ⟨AS, hAS⟩ : ∃ AS, bigS (scT st rm ps ts cs) = AS := ⟨_, rfl⟩
  obtain ⟨AE, hAE⟩ : ∃ AE, bigE (scT st rm ps ts cs) = AE := ⟨_, rfl⟩
  rw [hAS, hAE]
  have HAS := Lib.hid hAS
  have HAE := Lib.hid hAE
  clear hAS hAE
  obtain ⟨w0, hw0, r0, hB0, hs0⟩ := boxG W #[.int .i64 st, .int .i64 rm, .slice cp cs.length cc, .slice pp pn pk, .slice tp tn tk] 25
  have HR0 := Lib.hid r0
  have HC := Lib.hid (hC.below hB0)
  have HP := Lib.hid (hP.below hB0)
  have HQ := Lib.hid (hQ.below hB0)
  have HT_ := Lib.hid (pow10_bel hT hB0)
  have HB0 := Lib.hid hB0
  have HS0 := Lib.hid hs0
  have HK := Lib.hid hk
  have HW := Lib.hid hw
  have HN := Lib.hid (And.intro hcl (And.intro hpn htn))
  have HCC := Lib.hid hcc
  have HLEN := Lib.hid hlen
  have HST := Lib.hid (And.intro hst hrm)
  have c0 : w0.cell? ⟨W.heap.size, 0, none⟩ = some (.int .i64 st) := by rw [cell_of_row _ _ _ _ _ _ r0]; rfl
  have c1 : w0.cell? ⟨W.heap.size, 1, none⟩ = some (.int .i64 rm) := by rw [cell_of_row _ _ _ _ _ _ r0]; rfl
  have c2 : w0.cell? ⟨W.heap.size, 2, none⟩ = some (.slice cp cs.length cc) := by rw [cell_of_row _ _ _ _ _ _ r0]; rfl
  have c3 : w0.cell? ⟨W.heap.size, 3, none⟩ = some (.slice pp pn pk) := by rw [cell_of_row _ _ _ _ _ _ r0]; rfl
  have c4 : w0.cell? ⟨W.heap.size, 4, none⟩ = some (.slice tp tn tk) := by rw [cell_of_row _ _ _ _ _ _ r0]; rfl
  have HC0 := Lib.hid c0
  have HC1 := Lib.hid c1
  have HC2 := Lib.hid c2
  have HC3 := Lib.hid c3
  have HC4 := Lib.hid c4
  have WDK := Lib.hid (fun (k : Int) (w : World) => sc_word k w)
  clear c0 c1 c3 c4 hC hP hQ hT hk hw hcl hpn htn hcc hlen hst hrm r0 hB0 hs0
  go_enter Tryd.func9, Tryd.ntmps9
  go_wp2_with fail
  go_loopw [5, 7, 16, 22] (fun _ _ x _ wr => ∃ i : Nat, x = .int .i64 i ∧ Hid (i ≤ cs.length) ∧ Hid (Below w0.heap.size w0 wr)) (fun _ _ x _ _ => cs.length - (intOf x).toNat)
  case atStart => exact ⟨0, rfl, Lib.hid (Nat.zero_le _), Lib.hid (Below.refl _ _)⟩
  case round =>
    obtain ⟨i, rfl, HI, HB⟩ := hrel
    obtain ⟨x1, rfl⟩ : ∃ w, w = wr := ⟨_, rfl⟩
    by_cases hi : i < cs.length
    · obtain ⟨l, hl⟩ : ∃ l, cs[i]? = some l := ⟨_, List.getElem?_eq_getElem hi⟩
      have hBx : Below w0.heap.size w0 x1 := HB.out
      obtain ⟨p', c', he, hx⟩ := HC.out
      simp only [Value.slice.injEq] at he
      obtain ⟨rfl, -, rfl⟩ := he
      rcases hx with hx | ⟨b, o, rfl, hb, hx⟩
      · rw [hx] at hi; cases hi
      obtain ⟨u, hu0, hrow⟩ := hx i l hl
      have hu : x1.cell? ⟨b, o + i, none⟩ = some u := (hBx.cell (p := ⟨b, o + i, none⟩) hb).trans hu0
      obtain ⟨up, uc, rfl, -⟩ := id hrow
      have HROW := Lib.hid hrow
      have HL := Lib.hid hl
      have HIL := Lib.hid hi
      have hii : (i : Int) < (cs.length : Int) := by omega
      have hi0 : (0 : Int) ≤ (i : Int) := by omega
      have WI := Lib.hid (show wrap64 ((i : Int) + 1) = ((i + 1 : Nat) : Int) by have := HN.out.1; simp only [wrap64]; omega)
      have HLN := Lib.hid (HCC.out l (List.mem_of_getElem? hl))
      clear hi hl hx hrow hb hBx hu0
      go_wp2_with fail
      go_loopw [7, 22] (fun _ y wr => ∃ k : Nat, y = .int .i64 k ∧ Hid (k ≤ l.length) ∧ Hid (Below w0.heap.size w0 wr)) (fun _ y _ => l.length - (intOf y).toNat)
      case atStart => exact ⟨0, rfl, Lib.hid (Nat.zero_le _), HB⟩
      case round =>
        obtain ⟨k, rfl, HKK, HB2⟩ := hrel
        obtain ⟨x2, rfl⟩ : ∃ w, w = wr := ⟨_, rfl⟩
        by_cases hk : k < l.length
        · obtain ⟨c, hc⟩ : ∃ c, l[k]? = some c := ⟨_, List.getElem?_eq_getElem hk⟩
          have hBx : Below w0.heap.size w0 x2 := HB2.out
          obtain ⟨p', c', he, hx⟩ := HROW.out.below hBx
          simp only [Value.slice.injEq] at he
          obtain ⟨rfl, -, rfl⟩ := he
          rcases hx with hx | ⟨b', o', rfl, hb', hx⟩
          · rw [hx] at hk; cases hk
          obtain ⟨hok, d0, d1, d2, d3, d4, d5, xv, d6, hrx⟩ := hx k c hc
          obtain ⟨xp, xk, rfl, -⟩ := id hrx
          have hne := sc_no_nil (HK.out l (List.mem_of_getElem? HL.out) c (List.mem_of_getElem? hc))
          have HKL := Lib.hid hk
          have hkk : (k : Int) < (l.length : Int) := by omega
          have hk0 : (0 : Int) ≤ (k : Int) := by omega
          have WK := Lib.hid (show wrap64 ((k : Int) + 1) = ((k + 1 : Nat) : Int) by have := HLN.out; simp only [wrap64]; omega)
          have HBZ := Lib.hid hBx.size
          obtain ⟨kd, ca, cb, cs', cw, ct, cx⟩ := c
          simp only at d0 d1 d2 d3 d4 d5 d6 hne
          clear hk hc hBx hx hb' hrx hok
          go_wp2_with fail
          refine (WDK.out _ _).mono ?_
          rintro e x3 ⟨rfl, rfl⟩
          go_wp2_with fail
          go_roundw
          case rel => exact ⟨k + 1, by first | rw [WK.out] | simp, Lib.hid HKL.out, Lib.hid (HB2.out.alloc HBZ.out _)⟩
          case measure => first | exact sc_meas' l.length k HKL.out | (rw [WK.out]; exact sc_meas l.length k HKL.out)
        · have h9 : k = l.length := by have := HKK.out; omega
          subst h9
          have hkk : ¬ (l.length : Int) < (l.length : Int) := by omega
          go_wp2_with fail
          go_roundw
          case rel => exact ⟨i + 1, by first | rw [WI.out] | simp, Lib.hid HIL.out, HB2⟩
          case measure => first | exact sc_meas' cs.length i HIL.out | (rw [WI.out]; exact sc_meas cs.length i HIL.out)
    · have h9 : i = cs.length := by have := HI.out; omega
      subst h9
      have hii : ¬ (cs.length : Int) < (cs.length : Int) := by omega
      have HZ1 := Lib.hid HB.out.size
      have hbl : W.heap.size < w0.heap.size := by rw [HS0.out]; omega
      have HBL := Lib.hid hbl
      have hlh : (scT st rm ps ts cs).length = (lineB (wsL ⟨#[112, 108, 97, 121]⟩ [st, rm])).length + (lineB (wsL ⟨#[112, 105, 99, 107, 115]⟩ ps)).length + (lineB (wsL ⟨#[116, 105, 99, 107, 115]⟩ ts)).length + ((cs.map cliT).flatten).length := by
        unfold scT headT; simp only [List.length_append]
      rw [hlh] at HLEN
      clear hi hbl hlh
      obtain ⟨x2, hx2, hr2, hB2, hs2⟩ := boxG x1 #[.pointer none, .slice none 0 0] 59
      obtain ⟨b, hb⟩ : ∃ b, x1.heap.size = b := ⟨_, rfl⟩
      have BU2 := Lib.hid (show Lib.IsBuilder 59 5 w0.heap.size b (Lib.byteCells []) x2 by
        rw [← hb, ← hx2]; exact isb_mono (Lib.fresh_isBuilder _ _ x1) HZ1.out)
      have HB2 := Lib.hid (show Below w0.heap.size w0 x2 from HB.out.trans (hB2.mono HZ1.out))
      have HZ2 := Lib.hid HB2.out.size
      clear hr2 hB2 hs2
      obtain ⟨x3, hx3, hr3, hB3, hs3⟩ := boxG x2 #[.int .i64 st, .int .i64 rm] 3
      have HB3 := Lib.hid (HB2.out.trans (hB3.mono HZ2.out))
      have NU := Lib.hid (sc_numbers ⟨#[112, 108, 97, 121]⟩ (some ⟨x2.heap.size, 0, none⟩) 2 2 [st, rm] x3 (by rw [← hx3]; exact rowI2 x2 st rm HST.out.1 HST.out.2) (by decide) (pow10_bel HT_.out HB3.out))
      have BU3 := Lib.hid (isb_below BU2.out hB3)
      have c0 := (HB2.out.cell (p := ⟨W.heap.size, 0, none⟩) HBL.out).trans HC0.out
      have c1 := (HB2.out.cell (p := ⟨W.heap.size, 1, none⟩) HBL.out).trans HC1.out
      clear hr3 hB3 hs3
      obtain ⟨cm, hcm⟩ : ∃ cm, cs.length = cm := ⟨_, rfl⟩
      have HCM := Lib.hid hcm
      rw [hcm]
      clear hcm
      go_wp2_with fail
      rw [hb] at *
      go_wp2_with fail
      refine NU.out.mono ?_
      rintro e x4 ⟨v4, rfl, ho4, hb4⟩
      have HB4 := Lib.hid (HB3.out.trans (hb4.mono HB3.out.size))
      have BU4 := isb_below BU3.out hb4
      have LI := Lib.hid (sc_line w0.heap.size b [] x3.heap.size v4 3 (wsL ⟨#[112, 108, 97, 121]⟩ [st, rm]) x4 BU4 HB4.out.size (own_made2 ho4) (by decide) (by decide) (by have := HLEN.out; simp only [List.length_nil]; omega))
      clear ho4 hb4 BU4 c0 c1
      go_wp2_with fail
      refine LI.out.mono ?_
      rintro e x5 ⟨rfl, bu5, hb5⟩
      have BU5 := Lib.hid bu5
      have HB5 := Lib.hid (HB4.out.trans hb5)
      have HZ5 := Lib.hid HB5.out.size
      have c3 := (HB5.out.cell (p := ⟨W.heap.size, 3, none⟩) HBL.out).trans HC3.out
      have NU2 := Lib.hid (sc_numbers ⟨#[112, 105, 99, 107, 115]⟩ pp pn pk ps x5 (HP.out.below HB5.out) HN.out.2.1 (pow10_bel HT_.out HB5.out))
      clear bu5 hb5
      go_wp2_with fail
      refine NU2.out.mono ?_
      rintro e x6 ⟨v6, rfl, ho6, hb6⟩
      have HB6 := Lib.hid (HB5.out.trans (hb6.mono HZ5.out))
      have LI2 := Lib.hid (sc_line w0.heap.size b _ x5.heap.size v6 (pn + 1) (wsL ⟨#[112, 105, 99, 107, 115]⟩ ps) x6 (isb_below BU5.out hb6) HB6.out.size (own_made2 ho6) (by omega) (by have := HN.out.2.1; omega) (by have := HLEN.out; simp only [List.length_append, List.length_nil]; omega))
      clear ho6 hb6 c3
      go_wp2_with fail
      refine LI2.out.mono ?_
      rintro e x7 ⟨rfl, bu7, hb7⟩
      have BU7 := Lib.hid bu7
      have HB7 := Lib.hid (HB6.out.trans hb7)
      have HZ7 := Lib.hid HB7.out.size
      have c4 := (HB7.out.cell (p := ⟨W.heap.size, 4, none⟩) HBL.out).trans HC4.out
      have NU3 := Lib.hid (sc_numbers ⟨#[116, 105, 99, 107, 115]⟩ tp tn tk ts x7 (HQ.out.below HB7.out) HN.out.2.2 (pow10_bel HT_.out HB7.out))
      clear bu7 hb7
      go_wp2_with fail
      refine NU3.out.mono ?_
      rintro e x8 ⟨v8, rfl, ho8, hb8⟩
      have HB8 := Lib.hid (HB7.out.trans (hb8.mono HZ7.out))
      have LI3 := Lib.hid (sc_line w0.heap.size b _ x7.heap.size v8 (tn + 1) (wsL ⟨#[116, 105, 99, 107, 115]⟩ ts) x8 (isb_below BU7.out hb8) HB8.out.size (own_made2 ho8) (by omega) (by have := HN.out.2.2; omega) (by have := HLEN.out; simp only [List.length_append, List.length_nil]; omega))
      clear ho8 hb8 c4
      go_wp2_with fail
      refine LI3.out.mono ?_
      rintro e x9 ⟨rfl, bu9, hb9⟩
      have HB9 := Lib.hid (HB8.out.trans hb9)
      have BU9 := Lib.hid (show Lib.IsBuilder 59 5 w0.heap.size b (Lib.byteCells (headT st rm ps ts ++ ((cs.take 0).map cliT).flatten)) x9 from by
        have h : headT st rm ps ts ++ ((cs.take 0).map cliT).flatten = [] ++ lineB (wsL ⟨#[112, 108, 97, 121]⟩ [st, rm]) ++ lineB (wsL ⟨#[112, 105, 99, 107, 115]⟩ ps) ++ lineB (wsL ⟨#[116, 105, 99, 107, 115]⟩ ts) := by unfold headT; simp
        rw [h]; exact bu9)
      have HHL := Lib.hid (show (headT st rm ps ts).length + ((cs.map cliT).flatten).length ≤ 900000000 by have := HLEN.out; unfold headT; simp only [List.length_append]; omega)
      have c2' := (HB9.out.cell (p := ⟨W.heap.size, 2, none⟩) HBL.out).trans HC2.out
      clear bu9 hb9
      rw [HCM.out] at c2'
      go_wp2_with fail
      go_loopw [10, 12, 50, 58] (fun _ _ x _ wr => ∃ i : Nat, x = .int .i64 i ∧ Hid (i ≤ cs.length) ∧ Hid (Below w0.heap.size w0 wr) ∧ Hid (Lib.IsBuilder 59 5 w0.heap.size b (Lib.byteCells (headT st rm ps ts ++ ((cs.take i).map cliT).flatten)) wr)) (fun _ _ x _ _ => cs.length - (intOf x).toNat)
      case atStart => exact ⟨0, rfl, Lib.hid (Nat.zero_le _), HB9, BU9⟩
      case round =>
        obtain ⟨i, rfl, HI, HBx, BUx⟩ := hrel
        obtain ⟨y1, rfl⟩ : ∃ w, w = wr := ⟨_, rfl⟩
        by_cases hi : i < cs.length
        · obtain ⟨l, hl⟩ : ∃ l, cs[i]? = some l := ⟨_, List.getElem?_eq_getElem hi⟩
          obtain ⟨p', c', he, hx⟩ := HC.out
          simp only [Value.slice.injEq] at he
          obtain ⟨rfl, -, rfl⟩ := he
          rcases hx with hx | ⟨bc, o, rfl, hbc, hx⟩
          · rw [hx] at hi; cases hi
          obtain ⟨u, hu0, hrow⟩ := hx i l hl
          have hu : y1.cell? ⟨bc, o + i, none⟩ = some u := (HBx.out.cell (p := ⟨bc, o + i, none⟩) hbc).trans hu0
          obtain ⟨up, uc, rfl, -⟩ := id hrow
          have HROW := Lib.hid hrow
          have HL := Lib.hid hl
          have HIL := Lib.hid hi
          have hii : (i : Int) < (cm : Int) := by rw [← HCM.out]; omega
          have hi0 : (0 : Int) ≤ (i : Int) := by omega
          have WI := Lib.hid (show wrap64 ((i : Int) + 1) = ((i + 1 : Nat) : Int) by have h1 := HN.out.1; have h2 := HCM.out; simp only [wrap64]; omega)
          have HLN := Lib.hid (HCC.out l (List.mem_of_getElem? hl))
          have HCS := Lib.hid (cliT_step hl)
          have HCL := Lib.hid (cliT_le hl)
          obtain ⟨T0, hT0⟩ : ∃ T0, headT st rm ps ts ++ ((cs.take i).map cliT).flatten = T0 := ⟨_, rfl⟩
          have HTE := Lib.hid hT0
          have HTL := Lib.hid (show T0.length + (cliT l).length ≤ 900000000 by rw [← hT0, List.length_append]; have h1 := HHL.out; have h2 := HCL.out; omega)
          rw [hT0] at BUx
          obtain ⟨y2, hy2, -, hbb, -⟩ := boxG y1 #[.string cliB] 9
          have HY := Lib.hid (show y2.ownsRow y1.heap.size 9 1 (.slice (some ⟨y1.heap.size, 0, none⟩) 1 1) 1 ([cliB].map (Value.string ·)) by rw [← hy2]; exact own_made1 y1 _ _ _ (Nat.le_refl _))
          have HBy := Lib.hid (HBx.out.trans (hbb.mono HBx.out.size))
          have LI4 := Lib.hid (sc_line w0.heap.size b _ y1.heap.size _ 1 [cliB] y2 (isb_below BUx.out hbb) HBy.out.size HY.out (by decide) (by decide) (by have := HTL.out; unfold cliT at this; rw [List.length_append] at this; omega))
          have hy2' : y1.alloc (.cells #[.string ⟨#[99, 108, 105, 101, 110, 116]⟩] 9) = y2 := hy2
          clear hi hl hx hrow hbc hu0 hT0 hbb hy2
          go_wp2_with fail
          refine LI4.out.mono ?_
          rintro e y3 ⟨rfl, bu3, hb3⟩
          have BY3 := Lib.hid (show Lib.IsBuilder 59 5 w0.heap.size b (Lib.byteCells (T0 ++ lineB [cliB] ++ callsT (l.take 0))) y3 from by
            have h : T0 ++ lineB [cliB] ++ callsT (l.take 0) = T0 ++ lineB [cliB] := by unfold callsT; simp
            rw [h]; exact bu3)
          have HBy3 := Lib.hid (HBy.out.trans hb3)
          clear bu3 hb3 hy2'
          go_wp2_with fail
          go_loopw [12, 58] (fun _ y wr => ∃ k : Nat, y = .int .i64 k ∧ Hid (k ≤ l.length) ∧ Hid (Below w0.heap.size w0 wr) ∧ Hid (Lib.IsBuilder 59 5 w0.heap.size b (Lib.byteCells (T0 ++ lineB [cliB] ++ callsT (l.take k))) wr)) (fun _ y _ => l.length - (intOf y).toNat)
          case atStart => exact ⟨0, rfl, Lib.hid (Nat.zero_le _), HBy3, BY3⟩
          case round =>
            obtain ⟨k, rfl, HKK, HB4, BU4⟩ := hrel
            obtain ⟨z1, rfl⟩ : ∃ w, w = wr := ⟨_, rfl⟩
            by_cases hk : k < l.length
            · obtain ⟨c, hc⟩ : ∃ c, l[k]? = some c := ⟨_, List.getElem?_eq_getElem hk⟩
              obtain ⟨p', c', he, hx⟩ := HROW.out.below HB4.out
              simp only [Value.slice.injEq] at he
              obtain ⟨rfl, -, rfl⟩ := he
              rcases hx with hx | ⟨b', o', rfl, hb', hx⟩
              · rw [hx] at hk; cases hk
              obtain ⟨hok, d0, d1, d2, d3, d4, d5, xv, d6, hrx⟩ := hx k c hc
              obtain ⟨xp, xk, rfl, -⟩ := id hrx
              have HKL := Lib.hid hk
              have hkk : (k : Int) < (l.length : Int) := by omega
              have hk0 : (0 : Int) ≤ (k : Int) := by omega
              have WK := Lib.hid (show wrap64 ((k : Int) + 1) = ((k + 1 : Nat) : Int) by have := HLN.out; simp only [wrap64]; omega)
              have HZ4 := Lib.hid HB4.out.size
              have HSTP := Lib.hid (callsT_step hc)
              have hle := callsT_le hc
              have HTL4 := Lib.hid (show (T0 ++ lineB [cliB] ++ callsT (l.take k)).length + (lineB (wsC c)).length ≤ 900000000 by
                have h1 := HTL.out
                unfold cliT at h1
                simp only [List.length_append] at h1 ⊢
                omega)
              have HPOS := Lib.hid (wsC_pos c)
              obtain ⟨z2, hz2, hr2, hbb, hs2⟩ := boxG z1 #[.int .i64 c.kd, .int .i64 c.n, .int .i64 c.dir, .string c.s, .int .i64 c.who, .int .i64 c.at', .slice xp c.xs.length xk] 49
              obtain ⟨g0, g1, g2, g3, g4, g5, g6⟩ := cells7 hr2
              have HB5 := Lib.hid (HB4.out.trans (hbb.mono HZ4.out))
              have BU5 := Lib.hid (isb_below BU4.out hbb)
              have WO := Lib.hid (HW.out l (List.mem_of_getElem? HL.out) c (List.mem_of_getElem? hc) (.slice xp c.xs.length xk) z2 hok (hrx.below hbb) (pow10_bel HT_.out HB5.out))
              obtain ⟨ws, hws⟩ : ∃ ws, wsC c = ws := ⟨_, rfl⟩
              rw [hws] at HSTP HTL4 HPOS WO
              have hwl : ws.length ≤ 1000000000 := by
                have h1 := HTL4.out
                have h2 := line_ge ws
                omega
              have HWL := Lib.hid hwl
              obtain ⟨kd, ca, cb, cs', cw, ct, cx⟩ := c
              simp only [Cl.val] at d0 d1 d2 d3 d4 d5 d6 hz2 g0 g1 g2 g3 g4 g5 g6 WO
              clear hk hc hx hb' hrx hok hle hr2 hbb hs2 hws hwl
              go_wp2_with fail
              refine WO.out.mono ?_
              rintro e z3 ⟨v3, rfl, ho3, hb3⟩
              rw [List.length_map] at ho3
              have HB6 := Lib.hid (HB5.out.trans (hb3.mono HB5.out.size))
              have LI5 := Lib.hid (sc_line w0.heap.size b _ z2.heap.size v3 ws.length ws z3 (isb_below BU5.out hb3) HB6.out.size ho3 HPOS.out HWL.out (by have := HTL4.out; omega))
              clear ho3 hb3
              go_wp2_with fail
              refine LI5.out.mono ?_
              rintro e z4 ⟨rfl, bu4, hb4⟩
              have BU6 := Lib.hid bu4
              have HB7 := Lib.hid (HB6.out.trans hb4)
              clear bu4 hb4
              go_wp2_with fail
              go_roundw
              case rel => exact ⟨k + 1, by first | rw [WK.out] | simp, Lib.hid HKL.out, HB7, Lib.hid (by rw [HSTP.out, ← List.append_assoc]; exact BU6.out)⟩
              case measure => first | exact sc_meas' l.length k HKL.out | (rw [WK.out]; exact sc_meas l.length k HKL.out)
            · have h9 : k = l.length := by have := HKK.out; omega
              subst h9
              have hkk : ¬ (l.length : Int) < (l.length : Int) := by omega
              have BU9' := Lib.hid (show Lib.IsBuilder 59 5 w0.heap.size b (Lib.byteCells (headT st rm ps ts ++ ((cs.take (i + 1)).map cliT).flatten)) z1 from by
                have h := BU4.out
                rw [List.take_length] at h
                rw [HCS.out, ← List.append_assoc, HTE.out]
                unfold cliT
                rw [← List.append_assoc]
                exact h)
              go_wp2_with fail
              go_roundw
              case rel => exact ⟨i + 1, by first | rw [WI.out] | simp, Lib.hid HIL.out, HB4, BU9'⟩
              case measure => first | exact sc_meas' cs.length i HIL.out | (rw [WI.out]; exact sc_meas cs.length i HIL.out)
        · have h9 : i = cs.length := by have := HI.out; omega
          subst h9
          have hii : ¬ (cs.length : Int) < (cm : Int) := by rw [← HCM.out]; omega
          obtain ⟨TT, hTT⟩ : ∃ TT, scT st rm ps ts cs = TT := ⟨_, rfl⟩
          have BUT := Lib.hid (show Lib.IsBuilder 59 5 w0.heap.size b (Lib.byteCells TT) y1 from by
            have h := BUx.out
            rw [List.take_length] at h
            rw [← hTT]; exact h)
          rw [hTT] at HAS HAE
          have LE := Lib.hid (c_b_Len w0.heap.size b (Lib.byteCells TT) y1 BUT.out)
          rw [Lib.byteCells_length] at LE
          have SR := Lib.hid (c_b_String w0.heap.size b TT y1 BUT.out HBx.out.size)
          clear hi hTT
          by_cases hbig : TT.length ≤ 1048576
          · have hS : bigS TT = ⟨TT.toArray⟩ := by unfold bigS; rw [if_pos hbig]
            have hE : bigE TT = 0 := by unfold bigE; rw [if_pos hbig]
            have hd : decide ((1048576 : Int) < (TT.length : Int)) = false := decide_eq_false (by omega)
            have HFI := Lib.hid (And.intro (HAS.out.symm.trans hS) (HAE.out.symm.trans hE))
            clear hS hE
            go_wp2_with fail
            refine LE.out.mono ?_
            rintro e y2 ⟨rfl, rfl⟩
            go_wp2_with fail
            refine SR.out.mono ?_
            rintro e y3 ⟨rfl, hb3⟩
            have HF := Lib.hid (HB0.out.trans ((HBx.out.trans hb3).mono HB0.out.size))
            clear hb3
            go_wp2_with fail
            go_ret2
            exact ⟨by rw [HFI.out.1, HFI.out.2]; rfl, HF.out⟩
          · have hS : bigS TT = ⟨#[]⟩ := by unfold bigS; rw [if_neg hbig]
            have hE : bigE TT = 12 := by unfold bigE; rw [if_neg hbig]
            have hd : decide ((1048576 : Int) < (TT.length : Int)) = true := decide_eq_true (by omega)
            have HFI := Lib.hid (And.intro (HAS.out.symm.trans hS) (HAE.out.symm.trans hE))
            clear hS hE
            go_wp2_with fail
            refine LE.out.mono ?_
            rintro e y2 ⟨rfl, rfl⟩
            have HF := Lib.hid (HB0.out.trans (HBx.out.mono HB0.out.size))
            go_wp2_with fail
            go_ret2
            exact ⟨by rw [HFI.out.1, HFI.out.2]; rfl, HF.out⟩
end Go.Proofs.YtoejflnlkapkiaaDoor
/- Layer 42's example; script.Own. -/
namespace Go.Proofs.YtoejflnlkapkiaaDoor
open Go.ChangeShapes Go.WideShapes Go.ChangeAt Go.RowKit
set_option linter.unusedVariables false
set_option linter.unusedSimpArgs false
def cl1 : Cl := ⟨1, 8, 0, ⟨#[]⟩, 0, 0, []⟩
theorem row_nilX (w : World) : RowX w (.slice none 0 0) [] := ⟨none, 0, rfl, ⟨rfl, .inl rfl, by simp, by decide⟩⟩
theorem rowI_nil (w : World) : RowI w none 0 [] := ⟨rfl, .inl rfl, by simp, by decide⟩
set_option maxRecDepth 100000 in
set_option maxHeartbeats 4000000 in
theorem live42 (W : World) (hT : Lib.TabIs Tryd.prog W "internal/strconv.uint64pow10" .u64 Lib.pow10Tab) : Calls Tryd.prog 8 #[] W fun e w' => e = .returned (.bool true) ∧ Below W.heap.size W w' := by
  obtain ⟨w0, hw0, r0, hB0, hs0⟩ := boxG W #[.int .i64 1, .int .i64 8, .int .i64 0, .string ⟨#[]⟩, .int .i64 0, .int .i64 0, .slice none 0 0] 49
  obtain ⟨w1, hw1, r1, hB1, hs1⟩ := boxG w0 #[.slice (some ⟨W.heap.size, 0, none⟩) 1 1] 55
  obtain ⟨x0, x1, x2, x3, x4, x5, x6⟩ := cells7 r0
  have hok : cl1.ok := ⟨by unfold i64r; decide, by unfold i64r; decide, by unfold i64r; decide, by unfold i64r; decide, by unfold i64r; decide⟩
  have hB01 : Below W.heap.size W w1 := hB0.trans (hB1.mono (by omega))
  have hc0 : RowC w0 (.slice (some ⟨W.heap.size, 0, none⟩) 1 1) [cl1] := ⟨some ⟨W.heap.size, 0, none⟩, 1, rfl, .inr ⟨W.heap.size, 0, rfl, by omega, fun j x hj => by
    match j, hj with
    | 0, hj =>
      simp at hj; subst hj
      exact ⟨hok, x0, x1, x2, x3, x4, x5, _, x6, row_nilX _⟩⟩⟩
  have hcc : RowCC w1 (.slice (some ⟨w0.heap.size, 0, none⟩) 1 1) [[cl1]] := ⟨some ⟨w0.heap.size, 0, none⟩, 1, rfl, .inr ⟨w0.heap.size, 0, rfl, by omega, fun j x hj => by
    match j, hj with
    | 0, hj =>
      simp at hj; subst hj
      exact ⟨_, by rw [cell_of_row _ _ _ _ _ _ r1]; rfl, hc0.below hB1⟩⟩⟩
  have hT1 := pow10_bel hT hB01
  have PR := Lib.hid (sc_print 1 1 (.slice (some ⟨w0.heap.size, 0, none⟩) 1 1) [[cl1]] none 0 0 [] none 0 0 [] w1 (by unfold i64r; decide) (by unfold i64r; decide) hcc (by decide) (by intro l hl; simp at hl; subst hl; decide) (rowI_nil _) (by decide) (rowI_nil _) (by decide) (by decide +kernel)
    (by intro l hl c hc; simp at hl; subst hl; simp at hc; subst hc; decide +kernel) hT1
    (by
      intro l hl c hc x w hok hx hT
      simp at hl; subst hl; simp at hc; subst hc
      obtain ⟨p, k, rfl, -⟩ := hx
      have h := sc_words_key cl1 (.slice p cl1.xs.length k) w ⟨_, _, _, rfl⟩ (.inl rfl) hok hT
      rwa [← wsL_val] at h))
  rw [show bigS (scT 1 1 [] [] [[cl1]]) = ⟨#[112, 108, 97, 121, 32, 49, 32, 49, 10, 112, 105, 99, 107, 115, 10, 116, 105, 99, 107, 115, 10, 99, 108, 105, 101, 110, 116, 10, 103, 101, 116, 32, 56, 32, 48, 10]⟩ by decide +kernel, show bigE (scT 1 1 [] [] [[cl1]]) = 0 by decide +kernel] at PR
  have HB := Lib.hid hB01
  clear hc0 hcc hT1 hT r0 hB0 hs0 r1 hB1 hs1 hok x0 x1 x2 x3 x4 x5 x6 hB01
  go_enter Tryd.func8, Tryd.ntmps8
  go_wp2_with fail
  refine PR.out.mono ?_
  rintro e w2 ⟨rfl, hb2⟩
  have HB2 := Lib.hid (HB.out.trans (hb2.mono HB.out.size))
  clear hb2
  go_wp2_with fail
  go_ret
  exact ⟨rfl, HB2.out⟩
end Go.Proofs.YtoejflnlkapkiaaDoor
/- lex.Tokens: byte by byte. -/
namespace Go.Proofs.YtoejflnlkapkiaaDoor
open Go.ChangeShapes Go.WideShapes Go.ChangeAt Go.RowKit
set_option linter.unusedVariables false
set_option linter.unusedSimpArgs false

theorem tk_len {s : ByteArray} : ∀ {i : Nat} {l : List (Int × Nat × Nat)}, tk s i = some l → l.length ≤ i ∧ ∀ k a b, l.getLast? = some (k, a, b) → a < i ∧ b = i ∧ k = kd (bt s (i - 1)) ∧ k ≠ 0 := by
  intro i
  induction i with
  | zero => intro l h; simp [tk] at h; subst h; simp
  | succ i ih =>
    intro l h
    simp only [tk] at h
    cases hp : tk s i with
    | none => simp [hp] at h
    | some m =>
      simp only [hp] at h
      by_cases h0 : kd (bt s i) = 0
      · simp [h0] at h
      · simp only [h0, if_false] at h
        have hm := ih hp
        rcases hl : m.getLast? with _ | ⟨k, a, b⟩
        · simp only [hl, Option.some.injEq] at h
          subst h
          refine ⟨by simp; omega, fun k a b h => ?_⟩
          rw [List.getLast?_concat] at h
          simp only [Option.some.injEq, Prod.mk.injEq] at h
          obtain ⟨rfl, rfl, rfl⟩ := h
          exact ⟨by omega, rfl, rfl, h0⟩
        · simp only [hl] at h
          have hml := hm.2 k a b hl
          have hne : m ≠ [] := by intro e; simp [e] at hl
          split at h
          · rename_i hc
            simp only [Option.some.injEq] at h; subst h
            have : 0 < m.length := List.length_pos_iff.2 hne
            refine ⟨by simp; omega, fun k' a' b' h => ?_⟩
            rw [List.getLast?_concat] at h
            simp only [Option.some.injEq, Prod.mk.injEq] at h
            obtain ⟨rfl, rfl, rfl⟩ := h
            exact ⟨by omega, rfl, hc.2, hml.2.2.2⟩
          · simp only [Option.some.injEq] at h; subst h
            refine ⟨by simp; omega, fun k' a' b' h => ?_⟩
            rw [List.getLast?_concat] at h
            simp only [Option.some.injEq, Prod.mk.injEq] at h
            obtain ⟨rfl, rfl, rfl⟩ := h
            exact ⟨by omega, rfl, rfl, h0⟩

theorem encT_set (s : ByteArray) (m : List (Int × Nat × Nat)) (k : Int) (a b b' : Nat) : (encT s (m ++ [(k, a, b)])).set (m.length * 3 + 1) (.string (s.extract a b')) = encT s (m ++ [(k, a, b')]) := by
  rw [encT_append, encT_append, List.set_append_right _ _ (by rw [encT_len]; omega), encT_len]
  simp [encT]
theorem iterPos_of {w : World} {k p : Nat} {s : ByteArray} (h : w.heap[k]? = some (.stringIter s p)) : w.iterPos k = p := by
  unfold World.iterPos; rw [h]

end Go.Proofs.YtoejflnlkapkiaaDoor
