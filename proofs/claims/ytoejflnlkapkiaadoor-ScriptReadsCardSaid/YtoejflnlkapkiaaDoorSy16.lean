/- Put together by program (merge2.py): Sqb. -/
import Derived.Test.YtoejflnlkapkiaaDoorSy12
import Derived.Test.YtoejflnlkapkiaaDoorSy15
/- script.fromHex. By program (gensqb.py). -/
namespace Go.Proofs.YtoejflnlkapkiaaDoor
open Go.ChangeShapes Go.WideShapes Go.ChangeAt Go.RowKit
set_option linter.unusedVariables false
set_option linter.unusedSimpArgs false
theorem ib_hex : ∀ k : Fin 256, Lib.indexByte hexes.data.toList (UInt8.ofNat k.1) = if halfN (UInt8.ofNat k.1) < 16 then (halfN (UInt8.ofNat k.1) : Int) else -1 := by decide +kernel
theorem ib_hexc (c : UInt8) : Lib.indexByte hexes.data.toList ((c.toNat : Int).toNat.toUInt8) = if halfN c < 16 then (halfN c : Int) else -1 := by
  have h := ib_hex ⟨c.toNat, c.toNat_lt⟩
  have e : UInt8.ofNat c.toNat = c := UInt8.ofNat_toNat
  simp only [e] at h
  have e2 : (c.toNat : Int).toNat.toUInt8 = c := by rw [Int.toNat_natCast]; exact e
  rw [e2]; exact h
def hxI (c : UInt8) : Int := if halfN c < 16 then (halfN c : Int) else -1
theorem c_ibh (c : UInt8) (w : World) : Calls Tryd.prog 75 #[.string hexes, .int .u8 (c.toNat : Int)] w fun e w' => e = .returned (.int .i64 (hxI c)) ∧ w = w' :=
  (c_IndexByte hexes (c.toNat : Int) w).mono (by
    rintro e w' ⟨h1, h2⟩
    rw [ib_hexc] at h1
    exact ⟨h1, h2.symm⟩)
def hexN (r : List (List UInt8)) : Option (List UInt8) := match r with | [] => some [] | [x] => unB x | _ => none
def HexOk (r : List (List UInt8)) (W : World) (e : Ending) (w' : World) : Prop := e = .returned (.tuple #[.string ⟨((hexN r).getD []).toArray⟩, .bool (hexN r).isSome]) ∧ Below W.heap.size W w'
theorem HexOk.bad {r : List (List UInt8)} {W w' : World} (h : hexN r = none) (hb : Below W.heap.size W w') : HexOk r W (.returned (.tuple #[.string ⟨#[]⟩, .bool false])) w' := ⟨by rw [h]; rfl, hb⟩
theorem HexOk.good {r : List (List UInt8)} {l : List UInt8} {W w' : World} (h : hexN r = some l) (hb : Below W.heap.size W w') : HexOk r W (.returned (.tuple #[.string ⟨l.toArray⟩, .bool true])) w' := ⟨by rw [h]; rfl, hb⟩
theorem hx_bits : ∀ a d : Fin 16, bits BinOp.or IntKind.i64 ((a.1 : Int) * 16) (d.1 : Int) % 256 = ((UInt8.ofNat (16 * a.1 + d.1)).toNat : Int) := by decide +kernel
theorem hx_b {a d : Nat} (ha : a < 16) (hd : d < 16) : bits BinOp.or IntKind.i64 ((a : Int) * 16) (d : Int) % 256 = ((UInt8.ofNat (16 * a + d)).toNat : Int) := hx_bits ⟨a, ha⟩ ⟨d, hd⟩
theorem byte_one (l : List UInt8) (n : Nat) : Lib.byteCells l ++ [.int .u8 (((UInt8.ofNat n).toNat : Nat) : Int)] = Lib.byteCells (l ++ [UInt8.ofNat n]) := by unfold Lib.byteCells; simp
set_option maxRecDepth 100000 in
set_option maxHeartbeats 8000000 in
theorem sc_fromHex1 (x : List UInt8) (hl : x.length ≤ 1000000) (b o c : Nat) (W : World) (hb : b < W.heap.size) (hc : W.cell? ⟨b, o, none⟩ = some (.string ⟨x.toArray⟩)) (hev : x.length % 2 = 0) :
    Calls Tryd.prog 59 #[.slice (some ⟨b, o, none⟩) 1 c] W (HexOk [x] W) := by
  obtain ⟨s, hs⟩ : ∃ s : ByteArray, ⟨x.toArray⟩ = s := ⟨_, rfl⟩
  rw [hs] at hc
  have hsz : s.size = x.length := by rw [← hs]; simp [ByteArray.size]
  have hi : (s.size : Int) % 2 = 0 := by omega
  have ht : (s.size : Int).tmod 2 = 0 := by rw [Int.tmod_eq_emod_of_nonneg (by omega)]; omega
  have HX := Lib.hid (show s.data.toList = x by rw [← hs])
  have HL := Lib.hid (show s.size ≤ 1000000 by omega)
  have HEV := Lib.hid (show s.size % 2 = 0 by omega)
  have HSZ := Lib.hid hsz
  obtain ⟨w0, hw0, r0, hB0, hs0⟩ := boxG W #[.pointer none, .slice none 0 0] 59
  have BU0 := Lib.hid (show Lib.IsBuilder 59 5 W.heap.size W.heap.size (Lib.byteCells []) w0 by rw [← hw0]; exact Lib.fresh_isBuilder _ _ W)
  have HB0 := Lib.hid hB0
  have HCE := Lib.hid (fun (w : World) (h : Below W.heap.size W w) => (h.cell (p := ⟨b, o, none⟩) hb).trans hc)
  clear r0 hB0 hs0 hs hsz hl hev
  go_enter Tryd.func59, Tryd.ntmps59
  go_wp2_with fail
  go_loopw [5, 6, 7] (fun j _ _ wr => ∃ (q : Nat) (l : List UInt8), j = .int .i64 (2 * q : Nat) ∧ Hid (2 * q ≤ s.size) ∧ Hid (unB (x.take (2 * q)) = some l) ∧ Hid (l.length = q) ∧ Hid (Lib.IsBuilder 59 5 W.heap.size W.heap.size (Lib.byteCells l) wr) ∧ Hid (Below W.heap.size W wr)) (fun j _ _ _ => s.size - (intOf j).toNat)
  case atStart => exact ⟨0, [], rfl, Lib.hid (Nat.zero_le _), Lib.hid rfl, Lib.hid rfl, BU0, HB0⟩
  case round =>
    obtain ⟨q, l, rfl, HQ, HV, HLL, BU, HB⟩ := hrel
    obtain ⟨x1, rfl⟩ : ∃ w, w = wr := ⟨_, rfl⟩
    obtain ⟨i, hi2⟩ : ∃ i, 2 * q = i := ⟨_, rfl⟩
    have HIQ := Lib.hid hi2
    rw [hi2] at HQ HV ⊢
    clear hi2
    have hcx := HCE.out x1 HB.out
    by_cases hq : i < s.size
    · have h1 : i + 1 < s.size := by have h2 := HEV.out; have h3 := HIQ.out; omega
      have hqi : (i : Int) < (s.size : Int) := by omega
      have hq0 : (0 : Int) ≤ (i : Int) := by omega
      obtain ⟨i1, hi1⟩ : ∃ i1, i + 1 = i1 := ⟨_, rfl⟩
      have WQ1 : wrap64 ((i : Int) + 1) = (i1 : Int) := by have := HL.out; simp only [wrap64]; omega
      have WQ2 : IntKind.i64.wrap ((i : Int) + 1) = (i1 : Int) := by rw [IntWalk.i64_in _ (by have := HL.out; omega)]; omega
      rw [hi1] at h1
      have HI1 := Lib.hid hi1
      have h11 : (i1 : Int) < (s.size : Int) := by omega
      have h10 : (0 : Int) ≤ (i1 : Int) := by omega
      have WQ := Lib.hid (show wrap64 ((i : Int) + 2) = ((i + 2 : Nat) : Int) by have := HL.out; simp only [wrap64]; omega)
      have H1 := fun w : World => c_ibh (s[i]'hq) w
      have H2 := fun w : World => c_ibh (s[i1]'h1) w
      unfold hexes at H1 H2
      obtain ⟨hat, -⟩ := bt_list s i hq
      obtain ⟨hbt, -⟩ := bt_list s i1 h1
      rw [HX.out] at hat hbt
      have HA := Lib.hid hat
      have HBT := Lib.hid hbt
      have hcd := HCE.out x1.drew HB.out.drew
      have HBd := Lib.hid (show Below W.heap.size W x1.drew from HB.out.drew)
      have BUd := Lib.hid (isb_below BU.out (show Below x1.heap.size x1 x1.drew from (Below.refl x1.heap.size x1).drew))
      have HQL := Lib.hid hq
      clear hat hbt hi1
      by_cases hab : halfN (s[i]'hq) < 16 ∧ halfN (s[i1]'h1) < 16
      · have HT := Lib.hid (unB_take (i := q) (by rw [HIQ.out]; exact HV.out) (by rw [HIQ.out]; exact HA.out) (by rw [HIQ.out, HI1.out]; exact HBT.out) hab.1 hab.2)
        obtain ⟨a, ha⟩ : ∃ a, halfN (s[i]'hq) = a := ⟨_, rfl⟩
        obtain ⟨d, hd⟩ : ∃ d, halfN (s[i1]'h1) = d := ⟨_, rfl⟩
        obtain ⟨ha16, hd16⟩ := hab
        unfold hxI at H1 H2
        rw [if_pos ha16] at H1
        rw [if_pos hd16] at H2
        rw [ha, hd] at HT
        rw [ha] at ha16 H1
        rw [hd] at hd16 H2
        have H1 := Lib.hid H1
        have H2 := Lib.hid H2
        have HBI := Lib.hid (hx_b ha16 hd16)
        have C1 := Lib.hid (c_b_Byte W.heap.size W.heap.size _ ((UInt8.ofNat (16 * a + d)).toNat : Int) x1.drew BUd.out (by have h1 := HL.out; have h2 := HLL.out; have h3 := HIQ.out; have h4 := HQL.out; rw [Lib.byteCells_length]; omega) HBd.out.size)
        have ha0 : ¬ (a : Int) < 0 := by omega
        have hd0 : ¬ (d : Int) < 0 := by omega
        clear ha hd
        go_upto_region 9 with fail
        refine wp_region_held_drew (S := fun w' => w' = x1.drew) (by kernel_rfl) rfl (fun hHeld => ?_)
        refine wpAnyH_take (i := 0) (v := ?v1) rfl (by kernel_rfl) (by kernel_rfl) (by kernel_rfl) (fun _ _ _ h => h) (Or.inl ⟨by kernel_rfl, ?hy1⟩) (by assumption) ?rest1
        case hy1 => intro w hSw; (try dsimp only at hSw); subst hSw; go_simp; (first | done | with_reducible rfl)
        (try simp only [Act.put, List.getElem_toArray, List.getElem_cons_zero, List.getElem_cons_succ, List.setIfInBounds_toArray, List.set_cons_zero, List.set_cons_succ])
        refine wpAnyH_take (i := 1) (v := ?v2) rfl (by kernel_rfl) (by kernel_rfl) (by kernel_rfl) (fun _ _ _ h => h) (Or.inl ⟨by kernel_rfl, ?hy2⟩) (by assumption) ?rest2
        case hy2 => intro w hSw; (try dsimp only at hSw); subst hSw; go_simp; (first | done | with_reducible rfl)
        (try simp only [Act.put, List.getElem_toArray, List.getElem_cons_zero, List.getElem_cons_succ, List.setIfInBounds_toArray, List.set_cons_zero, List.set_cons_succ])
        refine wpAnyH_take (i := 2) (v := ?v3) rfl (by kernel_rfl) (by kernel_rfl) (by kernel_rfl) (fun _ _ _ h => h) (Or.inl ⟨by kernel_rfl, ?hy3⟩) (by assumption) ?rest3
        case hy3 => intro w hSw; (try dsimp only at hSw); subst hSw; go_simp; (first | done | with_reducible rfl)
        (try simp only [Act.put, List.getElem_toArray, List.getElem_cons_zero, List.getElem_cons_succ, List.setIfInBounds_toArray, List.set_cons_zero, List.set_cons_succ])
        refine wpAnyH_take (i := 3) (v := ?v4) rfl (by kernel_rfl) (by kernel_rfl) (by kernel_rfl) (fun _ _ _ h => h) (Or.inl ⟨by kernel_rfl, ?hy4⟩) (by assumption) ?rest4
        case hy4 => intro w hSw; (try dsimp only at hSw); subst hSw; go_simp; (first | done | with_reducible rfl)
        (try simp only [Act.put, List.getElem_toArray, List.getElem_cons_zero, List.getElem_cons_succ, List.setIfInBounds_toArray, List.set_cons_zero, List.set_cons_succ])
        refine wpAnyH_take (i := 4) (v := ?v5) rfl (by kernel_rfl) (by kernel_rfl) (by kernel_rfl) (fun _ _ _ h => h) (Or.inl ⟨by kernel_rfl, ?hy5⟩) (by assumption) ?rest5
        case hy5 => intro w hSw; (try dsimp only at hSw); subst hSw; go_simp; (first | done | with_reducible rfl)
        (try simp only [Act.put, List.getElem_toArray, List.getElem_cons_zero, List.getElem_cons_succ, List.setIfInBounds_toArray, List.set_cons_zero, List.set_cons_succ])
        refine wpAnyH_take (i := 6) (v := ?v6) rfl (by kernel_rfl) (by kernel_rfl) (by kernel_rfl) (fun _ _ _ h => h) (Or.inl ⟨by kernel_rfl, ?hy6⟩) (by assumption) ?rest6
        case hy6 => intro w hSw; (try dsimp only at hSw); subst hSw; go_simp; (first | done | with_reducible rfl)
        (try simp only [Act.put, List.getElem_toArray, List.getElem_cons_zero, List.getElem_cons_succ, List.setIfInBounds_toArray, List.set_cons_zero, List.set_cons_succ])
        refine wpAnyH_take (i := 7) (v := ?v7) rfl (by kernel_rfl) (by kernel_rfl) (by kernel_rfl) (fun _ _ _ h => h) (Or.inl ⟨by kernel_rfl, ?hy7⟩) (by assumption) ?rest7
        case hy7 => intro w hSw; (try dsimp only at hSw); subst hSw; go_simp; (first | done | with_reducible rfl)
        (try simp only [Act.put, List.getElem_toArray, List.getElem_cons_zero, List.getElem_cons_succ, List.setIfInBounds_toArray, List.set_cons_zero, List.set_cons_succ])
        refine wpAnyH_take (i := 8) (v := ?v8) rfl (by kernel_rfl) (by kernel_rfl) (by kernel_rfl) (fun _ _ _ h => h) (Or.inl ⟨by kernel_rfl, ?hy8⟩) (by assumption) ?rest8
        case hy8 => intro w hSw; (try dsimp only at hSw); subst hSw; go_simp; (first | done | with_reducible rfl)
        (try simp only [Act.put, List.getElem_toArray, List.getElem_cons_zero, List.getElem_cons_succ, List.setIfInBounds_toArray, List.set_cons_zero, List.set_cons_succ])
        refine wpAnyH_take (i := 9) (v := ?v9) rfl (by kernel_rfl) (by kernel_rfl) (by kernel_rfl) (fun _ _ _ h => h) (Or.inl ⟨by kernel_rfl, ?hy9⟩) (by assumption) ?rest9
        case hy9 => intro w hSw; (try dsimp only at hSw); subst hSw; go_simp; (first | done | with_reducible rfl)
        (try simp only [Act.put, List.getElem_toArray, List.getElem_cons_zero, List.getElem_cons_succ, List.setIfInBounds_toArray, List.set_cons_zero, List.set_cons_succ])
        refine wpAnyH_take (i := 10) (v := ?v10) rfl (by kernel_rfl) (by kernel_rfl) (by kernel_rfl) (fun _ _ _ h => h) (Or.inl ⟨by kernel_rfl, ?hy10⟩) (by assumption) ?rest10
        case hy10 => intro w hSw; (try dsimp only at hSw); subst hSw; go_simp; (first | done | with_reducible rfl)
        (try simp only [Act.put, List.getElem_toArray, List.getElem_cons_zero, List.getElem_cons_succ, List.setIfInBounds_toArray, List.set_cons_zero, List.set_cons_succ])
        refine wpAnyH_take (i := 11) (v := ?v11) rfl (by kernel_rfl) (by kernel_rfl) (by kernel_rfl) (fun _ _ _ h => h) (Or.inl ⟨by kernel_rfl, ?hy11⟩) (by assumption) ?rest11
        case hy11 => intro w hSw; (try dsimp only at hSw); subst hSw; go_simp; (first | done | with_reducible rfl)
        (try simp only [Act.put, List.getElem_toArray, List.getElem_cons_zero, List.getElem_cons_succ, List.setIfInBounds_toArray, List.set_cons_zero, List.set_cons_succ])
        refine wpAnyH_ready (rs := [5]) (by kernel_rfl) (by simp) ?_
        refine AllReadyH.cons rfl (fun K hK => ?_) AllReadyH.nil
        go_simp
        go_at_call 75
        with_reducible refine (H1.out x1.drew).mono ?_
        rintro e x2 ⟨rfl, rfl⟩
        (try go_wp2_with fail)
        refine hK.out _ _ rfl (fun hHeld2 => ?_)
        clear hK K hHeld
        have hHeld := hHeld2
        clear hHeld2
        (try simp only [Act.put, List.getElem_toArray, List.getElem_cons_zero, List.getElem_cons_succ, List.setIfInBounds_toArray, List.set_cons_zero, List.set_cons_succ])
        refine wpAnyH_ready (rs := [12]) (by kernel_rfl) (by simp) ?_
        refine AllReadyH.cons rfl (fun K hK => ?_) AllReadyH.nil
        go_simp
        go_at_call 75
        with_reducible refine (H2.out x1.drew).mono ?_
        rintro e x2 ⟨rfl, rfl⟩
        (try go_wp2_with fail)
        refine hK.out _ _ rfl (fun hHeld2 => ?_)
        clear hK K hHeld
        have hHeld := hHeld2
        clear hHeld2
        (try simp only [Act.put, List.getElem_toArray, List.getElem_cons_zero, List.getElem_cons_succ, List.setIfInBounds_toArray, List.set_cons_zero, List.set_cons_succ])
        refine wpAnyH_take (i := 13) (v := ?v12) rfl (by kernel_rfl) (by kernel_rfl) (by kernel_rfl) (fun _ _ _ h => h) (Or.inl ⟨by kernel_rfl, ?hy12⟩) (by assumption) ?rest12
        case hy12 => intro w hSw; (try dsimp only at hSw); subst hSw; go_simp; (first | done | with_reducible rfl)
        (try simp only [Act.put, List.getElem_toArray, List.getElem_cons_zero, List.getElem_cons_succ, List.setIfInBounds_toArray, List.set_cons_zero, List.set_cons_succ])
        refine wpAnyH_take (i := 14) (v := ?v13) rfl (by kernel_rfl) (by kernel_rfl) (by kernel_rfl) (fun _ _ _ h => h) (Or.inl ⟨by kernel_rfl, ?hy13⟩) (by assumption) ?rest13
        case hy13 => intro w hSw; (try dsimp only at hSw); subst hSw; go_simp; (first | done | with_reducible rfl)
        (try simp only [Act.put, List.getElem_toArray, List.getElem_cons_zero, List.getElem_cons_succ, List.setIfInBounds_toArray, List.set_cons_zero, List.set_cons_succ])
        refine wpAnyH_done (by kernel_rfl) ?_ _
        all_goals
          go_wp2_with fail
          rw [HBI.out]
          refine C1.out.mono ?_
          rintro e x3 ⟨rfl, hbu, hb3⟩
          rw [byte_one] at hbu
          have BU3 := Lib.hid hbu
          have HB3 := Lib.hid (HBd.out.trans (hb3.mono (Nat.le_refl _)))
          clear hbu hb3
          go_wp2_with fail
          go_roundw
          case rel => exact ⟨q + 1, l ++ [UInt8.ofNat (16 * a + d)], by first | (rw [WQ.out]; have h := HIQ.out; subst h; rfl) | (have h := HIQ.out; subst h; simp; done) | (have h := HIQ.out; subst h; simp; omega), Lib.hid (by have h2 := HEV.out; have h3 := HIQ.out; have h4 := HQL.out; omega), HT, Lib.hid (by have := HLL.out; simp [this]), Lib.hid (.inr BU3.out), HB3⟩
          case measure => first | (rw [WQ.out]; have h4 := HQL.out; simp only [intOf]; omega) | (have h4 := HQL.out; simp only [intOf]; omega)
      · have HNO := Lib.hid (show hexN [x] = none from unB_bad (i := q) (by rw [HIQ.out]; exact HA.out) (by rw [HIQ.out, HI1.out]; exact HBT.out) hab)
        by_cases ha16 : halfN (s[i]'hq) < 16
        · have hd16 : ¬ halfN (s[i1]'h1) < 16 := fun h => hab ⟨ha16, h⟩
          obtain ⟨a, ha⟩ : ∃ a, halfN (s[i]'hq) = a := ⟨_, rfl⟩
          unfold hxI at H1 H2
          rw [if_pos ha16, ha] at H1
          rw [if_neg hd16] at H2
          have H1 := Lib.hid H1
          have H2 := Lib.hid H2
          have ha0 : ¬ (a : Int) < 0 := by omega
          clear ha ha16 hd16 hab
          go_upto_region 9 with fail
          refine wp_region_held_drew (S := fun w' => w' = x1.drew) (by kernel_rfl) rfl (fun hHeld => ?_)
          refine wpAnyH_take (i := 0) (v := ?v14) rfl (by kernel_rfl) (by kernel_rfl) (by kernel_rfl) (fun _ _ _ h => h) (Or.inl ⟨by kernel_rfl, ?hy14⟩) (by assumption) ?rest14
          case hy14 => intro w hSw; (try dsimp only at hSw); subst hSw; go_simp; (first | done | with_reducible rfl)
          (try simp only [Act.put, List.getElem_toArray, List.getElem_cons_zero, List.getElem_cons_succ, List.setIfInBounds_toArray, List.set_cons_zero, List.set_cons_succ])
          refine wpAnyH_take (i := 1) (v := ?v15) rfl (by kernel_rfl) (by kernel_rfl) (by kernel_rfl) (fun _ _ _ h => h) (Or.inl ⟨by kernel_rfl, ?hy15⟩) (by assumption) ?rest15
          case hy15 => intro w hSw; (try dsimp only at hSw); subst hSw; go_simp; (first | done | with_reducible rfl)
          (try simp only [Act.put, List.getElem_toArray, List.getElem_cons_zero, List.getElem_cons_succ, List.setIfInBounds_toArray, List.set_cons_zero, List.set_cons_succ])
          refine wpAnyH_take (i := 2) (v := ?v16) rfl (by kernel_rfl) (by kernel_rfl) (by kernel_rfl) (fun _ _ _ h => h) (Or.inl ⟨by kernel_rfl, ?hy16⟩) (by assumption) ?rest16
          case hy16 => intro w hSw; (try dsimp only at hSw); subst hSw; go_simp; (first | done | with_reducible rfl)
          (try simp only [Act.put, List.getElem_toArray, List.getElem_cons_zero, List.getElem_cons_succ, List.setIfInBounds_toArray, List.set_cons_zero, List.set_cons_succ])
          refine wpAnyH_take (i := 3) (v := ?v17) rfl (by kernel_rfl) (by kernel_rfl) (by kernel_rfl) (fun _ _ _ h => h) (Or.inl ⟨by kernel_rfl, ?hy17⟩) (by assumption) ?rest17
          case hy17 => intro w hSw; (try dsimp only at hSw); subst hSw; go_simp; (first | done | with_reducible rfl)
          (try simp only [Act.put, List.getElem_toArray, List.getElem_cons_zero, List.getElem_cons_succ, List.setIfInBounds_toArray, List.set_cons_zero, List.set_cons_succ])
          refine wpAnyH_take (i := 4) (v := ?v18) rfl (by kernel_rfl) (by kernel_rfl) (by kernel_rfl) (fun _ _ _ h => h) (Or.inl ⟨by kernel_rfl, ?hy18⟩) (by assumption) ?rest18
          case hy18 => intro w hSw; (try dsimp only at hSw); subst hSw; go_simp; (first | done | with_reducible rfl)
          (try simp only [Act.put, List.getElem_toArray, List.getElem_cons_zero, List.getElem_cons_succ, List.setIfInBounds_toArray, List.set_cons_zero, List.set_cons_succ])
          refine wpAnyH_take (i := 6) (v := ?v19) rfl (by kernel_rfl) (by kernel_rfl) (by kernel_rfl) (fun _ _ _ h => h) (Or.inl ⟨by kernel_rfl, ?hy19⟩) (by assumption) ?rest19
          case hy19 => intro w hSw; (try dsimp only at hSw); subst hSw; go_simp; (first | done | with_reducible rfl)
          (try simp only [Act.put, List.getElem_toArray, List.getElem_cons_zero, List.getElem_cons_succ, List.setIfInBounds_toArray, List.set_cons_zero, List.set_cons_succ])
          refine wpAnyH_take (i := 7) (v := ?v20) rfl (by kernel_rfl) (by kernel_rfl) (by kernel_rfl) (fun _ _ _ h => h) (Or.inl ⟨by kernel_rfl, ?hy20⟩) (by assumption) ?rest20
          case hy20 => intro w hSw; (try dsimp only at hSw); subst hSw; go_simp; (first | done | with_reducible rfl)
          (try simp only [Act.put, List.getElem_toArray, List.getElem_cons_zero, List.getElem_cons_succ, List.setIfInBounds_toArray, List.set_cons_zero, List.set_cons_succ])
          refine wpAnyH_take (i := 8) (v := ?v21) rfl (by kernel_rfl) (by kernel_rfl) (by kernel_rfl) (fun _ _ _ h => h) (Or.inl ⟨by kernel_rfl, ?hy21⟩) (by assumption) ?rest21
          case hy21 => intro w hSw; (try dsimp only at hSw); subst hSw; go_simp; (first | done | with_reducible rfl)
          (try simp only [Act.put, List.getElem_toArray, List.getElem_cons_zero, List.getElem_cons_succ, List.setIfInBounds_toArray, List.set_cons_zero, List.set_cons_succ])
          refine wpAnyH_take (i := 9) (v := ?v22) rfl (by kernel_rfl) (by kernel_rfl) (by kernel_rfl) (fun _ _ _ h => h) (Or.inl ⟨by kernel_rfl, ?hy22⟩) (by assumption) ?rest22
          case hy22 => intro w hSw; (try dsimp only at hSw); subst hSw; go_simp; (first | done | with_reducible rfl)
          (try simp only [Act.put, List.getElem_toArray, List.getElem_cons_zero, List.getElem_cons_succ, List.setIfInBounds_toArray, List.set_cons_zero, List.set_cons_succ])
          refine wpAnyH_take (i := 10) (v := ?v23) rfl (by kernel_rfl) (by kernel_rfl) (by kernel_rfl) (fun _ _ _ h => h) (Or.inl ⟨by kernel_rfl, ?hy23⟩) (by assumption) ?rest23
          case hy23 => intro w hSw; (try dsimp only at hSw); subst hSw; go_simp; (first | done | with_reducible rfl)
          (try simp only [Act.put, List.getElem_toArray, List.getElem_cons_zero, List.getElem_cons_succ, List.setIfInBounds_toArray, List.set_cons_zero, List.set_cons_succ])
          refine wpAnyH_take (i := 11) (v := ?v24) rfl (by kernel_rfl) (by kernel_rfl) (by kernel_rfl) (fun _ _ _ h => h) (Or.inl ⟨by kernel_rfl, ?hy24⟩) (by assumption) ?rest24
          case hy24 => intro w hSw; (try dsimp only at hSw); subst hSw; go_simp; (first | done | with_reducible rfl)
          (try simp only [Act.put, List.getElem_toArray, List.getElem_cons_zero, List.getElem_cons_succ, List.setIfInBounds_toArray, List.set_cons_zero, List.set_cons_succ])
          refine wpAnyH_ready (rs := [5]) (by kernel_rfl) (by simp) ?_
          refine AllReadyH.cons rfl (fun K hK => ?_) AllReadyH.nil
          go_simp
          go_at_call 75
          with_reducible refine (H1.out x1.drew).mono ?_
          rintro e x2 ⟨rfl, rfl⟩
          (try go_wp2_with fail)
          refine hK.out _ _ rfl (fun hHeld2 => ?_)
          clear hK K hHeld
          have hHeld := hHeld2
          clear hHeld2
          (try simp only [Act.put, List.getElem_toArray, List.getElem_cons_zero, List.getElem_cons_succ, List.setIfInBounds_toArray, List.set_cons_zero, List.set_cons_succ])
          refine wpAnyH_ready (rs := [12]) (by kernel_rfl) (by simp) ?_
          refine AllReadyH.cons rfl (fun K hK => ?_) AllReadyH.nil
          go_simp
          go_at_call 75
          with_reducible refine (H2.out x1.drew).mono ?_
          rintro e x2 ⟨rfl, rfl⟩
          (try go_wp2_with fail)
          refine hK.out _ _ rfl (fun hHeld2 => ?_)
          clear hK K hHeld
          have hHeld := hHeld2
          clear hHeld2
          (try simp only [Act.put, List.getElem_toArray, List.getElem_cons_zero, List.getElem_cons_succ, List.setIfInBounds_toArray, List.set_cons_zero, List.set_cons_succ])
          refine wpAnyH_take (i := 13) (v := ?v25) rfl (by kernel_rfl) (by kernel_rfl) (by kernel_rfl) (fun _ _ _ h => h) (Or.inl ⟨by kernel_rfl, ?hy25⟩) (by assumption) ?rest25
          case hy25 => intro w hSw; (try dsimp only at hSw); subst hSw; go_simp; (first | done | with_reducible rfl)
          (try simp only [Act.put, List.getElem_toArray, List.getElem_cons_zero, List.getElem_cons_succ, List.setIfInBounds_toArray, List.set_cons_zero, List.set_cons_succ])
          refine wpAnyH_take (i := 14) (v := ?v26) rfl (by kernel_rfl) (by kernel_rfl) (by kernel_rfl) (fun _ _ _ h => h) (Or.inl ⟨by kernel_rfl, ?hy26⟩) (by assumption) ?rest26
          case hy26 => intro w hSw; (try dsimp only at hSw); subst hSw; go_simp; (first | done | with_reducible rfl)
          (try simp only [Act.put, List.getElem_toArray, List.getElem_cons_zero, List.getElem_cons_succ, List.setIfInBounds_toArray, List.set_cons_zero, List.set_cons_succ])
          refine wpAnyH_done (by kernel_rfl) ?_ _
          all_goals
            go_wp2_with fail
            go_ret2
            exact HexOk.bad HNO.out HBd.out
        · unfold hxI at H1
          rw [if_neg ha16] at H1
          have H1 := Lib.hid H1
          have H2 := Lib.hid H2
          clear ha16 hab
          go_upto_region 9 with fail
          refine wp_region_held_drew (S := fun w' => w' = x1.drew) (by kernel_rfl) rfl (fun hHeld => ?_)
          refine wpAnyH_take (i := 0) (v := ?v27) rfl (by kernel_rfl) (by kernel_rfl) (by kernel_rfl) (fun _ _ _ h => h) (Or.inl ⟨by kernel_rfl, ?hy27⟩) (by assumption) ?rest27
          case hy27 => intro w hSw; (try dsimp only at hSw); subst hSw; go_simp; (first | done | with_reducible rfl)
          (try simp only [Act.put, List.getElem_toArray, List.getElem_cons_zero, List.getElem_cons_succ, List.setIfInBounds_toArray, List.set_cons_zero, List.set_cons_succ])
          refine wpAnyH_take (i := 1) (v := ?v28) rfl (by kernel_rfl) (by kernel_rfl) (by kernel_rfl) (fun _ _ _ h => h) (Or.inl ⟨by kernel_rfl, ?hy28⟩) (by assumption) ?rest28
          case hy28 => intro w hSw; (try dsimp only at hSw); subst hSw; go_simp; (first | done | with_reducible rfl)
          (try simp only [Act.put, List.getElem_toArray, List.getElem_cons_zero, List.getElem_cons_succ, List.setIfInBounds_toArray, List.set_cons_zero, List.set_cons_succ])
          refine wpAnyH_take (i := 2) (v := ?v29) rfl (by kernel_rfl) (by kernel_rfl) (by kernel_rfl) (fun _ _ _ h => h) (Or.inl ⟨by kernel_rfl, ?hy29⟩) (by assumption) ?rest29
          case hy29 => intro w hSw; (try dsimp only at hSw); subst hSw; go_simp; (first | done | with_reducible rfl)
          (try simp only [Act.put, List.getElem_toArray, List.getElem_cons_zero, List.getElem_cons_succ, List.setIfInBounds_toArray, List.set_cons_zero, List.set_cons_succ])
          refine wpAnyH_take (i := 3) (v := ?v30) rfl (by kernel_rfl) (by kernel_rfl) (by kernel_rfl) (fun _ _ _ h => h) (Or.inl ⟨by kernel_rfl, ?hy30⟩) (by assumption) ?rest30
          case hy30 => intro w hSw; (try dsimp only at hSw); subst hSw; go_simp; (first | done | with_reducible rfl)
          (try simp only [Act.put, List.getElem_toArray, List.getElem_cons_zero, List.getElem_cons_succ, List.setIfInBounds_toArray, List.set_cons_zero, List.set_cons_succ])
          refine wpAnyH_take (i := 4) (v := ?v31) rfl (by kernel_rfl) (by kernel_rfl) (by kernel_rfl) (fun _ _ _ h => h) (Or.inl ⟨by kernel_rfl, ?hy31⟩) (by assumption) ?rest31
          case hy31 => intro w hSw; (try dsimp only at hSw); subst hSw; go_simp; (first | done | with_reducible rfl)
          (try simp only [Act.put, List.getElem_toArray, List.getElem_cons_zero, List.getElem_cons_succ, List.setIfInBounds_toArray, List.set_cons_zero, List.set_cons_succ])
          refine wpAnyH_take (i := 6) (v := ?v32) rfl (by kernel_rfl) (by kernel_rfl) (by kernel_rfl) (fun _ _ _ h => h) (Or.inl ⟨by kernel_rfl, ?hy32⟩) (by assumption) ?rest32
          case hy32 => intro w hSw; (try dsimp only at hSw); subst hSw; go_simp; (first | done | with_reducible rfl)
          (try simp only [Act.put, List.getElem_toArray, List.getElem_cons_zero, List.getElem_cons_succ, List.setIfInBounds_toArray, List.set_cons_zero, List.set_cons_succ])
          refine wpAnyH_take (i := 7) (v := ?v33) rfl (by kernel_rfl) (by kernel_rfl) (by kernel_rfl) (fun _ _ _ h => h) (Or.inl ⟨by kernel_rfl, ?hy33⟩) (by assumption) ?rest33
          case hy33 => intro w hSw; (try dsimp only at hSw); subst hSw; go_simp; (first | done | with_reducible rfl)
          (try simp only [Act.put, List.getElem_toArray, List.getElem_cons_zero, List.getElem_cons_succ, List.setIfInBounds_toArray, List.set_cons_zero, List.set_cons_succ])
          refine wpAnyH_take (i := 8) (v := ?v34) rfl (by kernel_rfl) (by kernel_rfl) (by kernel_rfl) (fun _ _ _ h => h) (Or.inl ⟨by kernel_rfl, ?hy34⟩) (by assumption) ?rest34
          case hy34 => intro w hSw; (try dsimp only at hSw); subst hSw; go_simp; (first | done | with_reducible rfl)
          (try simp only [Act.put, List.getElem_toArray, List.getElem_cons_zero, List.getElem_cons_succ, List.setIfInBounds_toArray, List.set_cons_zero, List.set_cons_succ])
          refine wpAnyH_take (i := 9) (v := ?v35) rfl (by kernel_rfl) (by kernel_rfl) (by kernel_rfl) (fun _ _ _ h => h) (Or.inl ⟨by kernel_rfl, ?hy35⟩) (by assumption) ?rest35
          case hy35 => intro w hSw; (try dsimp only at hSw); subst hSw; go_simp; (first | done | with_reducible rfl)
          (try simp only [Act.put, List.getElem_toArray, List.getElem_cons_zero, List.getElem_cons_succ, List.setIfInBounds_toArray, List.set_cons_zero, List.set_cons_succ])
          refine wpAnyH_take (i := 10) (v := ?v36) rfl (by kernel_rfl) (by kernel_rfl) (by kernel_rfl) (fun _ _ _ h => h) (Or.inl ⟨by kernel_rfl, ?hy36⟩) (by assumption) ?rest36
          case hy36 => intro w hSw; (try dsimp only at hSw); subst hSw; go_simp; (first | done | with_reducible rfl)
          (try simp only [Act.put, List.getElem_toArray, List.getElem_cons_zero, List.getElem_cons_succ, List.setIfInBounds_toArray, List.set_cons_zero, List.set_cons_succ])
          refine wpAnyH_take (i := 11) (v := ?v37) rfl (by kernel_rfl) (by kernel_rfl) (by kernel_rfl) (fun _ _ _ h => h) (Or.inl ⟨by kernel_rfl, ?hy37⟩) (by assumption) ?rest37
          case hy37 => intro w hSw; (try dsimp only at hSw); subst hSw; go_simp; (first | done | with_reducible rfl)
          (try simp only [Act.put, List.getElem_toArray, List.getElem_cons_zero, List.getElem_cons_succ, List.setIfInBounds_toArray, List.set_cons_zero, List.set_cons_succ])
          refine wpAnyH_ready (rs := [5]) (by kernel_rfl) (by simp) ?_
          refine AllReadyH.cons rfl (fun K hK => ?_) AllReadyH.nil
          go_simp
          go_at_call 75
          with_reducible refine (H1.out x1.drew).mono ?_
          rintro e x2 ⟨rfl, rfl⟩
          (try go_wp2_with fail)
          refine hK.out _ _ rfl (fun hHeld2 => ?_)
          clear hK K hHeld
          have hHeld := hHeld2
          clear hHeld2
          (try simp only [Act.put, List.getElem_toArray, List.getElem_cons_zero, List.getElem_cons_succ, List.setIfInBounds_toArray, List.set_cons_zero, List.set_cons_succ])
          refine wpAnyH_ready (rs := [12]) (by kernel_rfl) (by simp) ?_
          refine AllReadyH.cons rfl (fun K hK => ?_) AllReadyH.nil
          go_simp
          go_at_call 75
          with_reducible refine (H2.out x1.drew).mono ?_
          rintro e x2 ⟨rfl, rfl⟩
          (try go_wp2_with fail)
          refine hK.out _ _ rfl (fun hHeld2 => ?_)
          clear hK K hHeld
          have hHeld := hHeld2
          clear hHeld2
          (try simp only [Act.put, List.getElem_toArray, List.getElem_cons_zero, List.getElem_cons_succ, List.setIfInBounds_toArray, List.set_cons_zero, List.set_cons_succ])
          refine wpAnyH_take (i := 13) (v := ?v38) rfl (by kernel_rfl) (by kernel_rfl) (by kernel_rfl) (fun _ _ _ h => h) (Or.inl ⟨by kernel_rfl, ?hy38⟩) (by assumption) ?rest38
          case hy38 => intro w hSw; (try dsimp only at hSw); subst hSw; go_simp; (first | done | with_reducible rfl)
          (try simp only [Act.put, List.getElem_toArray, List.getElem_cons_zero, List.getElem_cons_succ, List.setIfInBounds_toArray, List.set_cons_zero, List.set_cons_succ])
          refine wpAnyH_take (i := 14) (v := ?v39) rfl (by kernel_rfl) (by kernel_rfl) (by kernel_rfl) (fun _ _ _ h => h) (Or.inl ⟨by kernel_rfl, ?hy39⟩) (by assumption) ?rest39
          case hy39 => intro w hSw; (try dsimp only at hSw); subst hSw; go_simp; (first | done | with_reducible rfl)
          (try simp only [Act.put, List.getElem_toArray, List.getElem_cons_zero, List.getElem_cons_succ, List.setIfInBounds_toArray, List.set_cons_zero, List.set_cons_succ])
          refine wpAnyH_done (by kernel_rfl) ?_ _
          all_goals
            go_wp2_with fail
            go_ret2
            exact HexOk.bad HNO.out HBd.out
    · have h9 : i = s.size := by have := HQ.out; omega
      subst h9
      have HNO := Lib.hid (show hexN [x] = some l by
        have := HV.out
        rw [List.take_of_length_le (by have := HSZ.out; omega)] at this
        exact this)
      have hqi : ¬ (s.size : Int) < (s.size : Int) := by omega
      have SR := Lib.hid (c_b_String W.heap.size W.heap.size l x1 BU.out HB.out.size)
      go_wp2_with fail
      refine SR.out.mono ?_
      rintro e x2 ⟨rfl, hb2⟩
      have HB2 := Lib.hid (HB.out.trans (hb2.mono (Nat.le_refl _)))
      clear hb2
      go_wp2_with fail
      go_ret2
      exact HexOk.good HNO.out HB2.out
set_option maxRecDepth 100000 in
set_option maxHeartbeats 8000000 in
theorem sc_fromHex (v : Value) (r : List (List UInt8)) (W : World) (h : RowS W v r) (hn : r.length ≤ 1000000) (hl : ∀ x ∈ r, x.length ≤ 1000000) : Calls Tryd.prog 59 #[v] W (HexOk r W) := by
  obtain ⟨p, c, rfl, hc, hx⟩ := h
  match r, hn, hl, hx with
  | [], hn, hl, hx =>
    clear hn hl hx hc
    go_enter Tryd.func59, Tryd.ntmps59
    (try simp only [List.length_nil])
    go_wp2_with fail
    go_ret2
    exact HexOk.good rfl (Below.refl _ _)
  | [x], hn, hl, hx =>
    rcases hx with hx | ⟨b, o, rfl, hb, hx⟩
    · cases hx
    have hc0 := hx 0 x rfl
    rw [Nat.add_zero] at hc0
    by_cases hev : x.length % 2 = 0
    · exact sc_fromHex1 x (hl x (by simp)) b o c W hb hc0 hev
    · have HNO := Lib.hid (show hexN [x] = none from unB_odd x (by omega))
      obtain ⟨s, hs⟩ : ∃ s : ByteArray, ⟨x.toArray⟩ = s := ⟨_, rfl⟩
      rw [hs] at hc0
      have hsz : s.size = x.length := by rw [← hs]; simp [ByteArray.size]
      have hi : (s.size : Int) % 2 = 1 := by omega
      have ht : (s.size : Int).tmod 2 = 1 := by rw [Int.tmod_eq_emod_of_nonneg (by omega)]; omega
      clear hn hl hx hc hs hsz hev
      go_enter Tryd.func59, Tryd.ntmps59
      (try simp only [List.length_cons, List.length_nil])
      go_wp2_with fail
      go_ret2
      exact HexOk.bad HNO.out (Below.refl _ _)
  | x :: y :: r, hn, hl, hx =>
    have hlen : 1 < (((x :: y :: r).length : Nat) : Int) := by simp only [List.length_cons]; omega
    have hl0 : ¬ (((x :: y :: r).length : Nat) : Int) = 0 := by omega
    obtain ⟨n, hn2⟩ : ∃ n, (x :: y :: r).length = n := ⟨_, rfl⟩
    rw [hn2] at hlen hl0 ⊢
    have hq : ((n : Int) == 0) = false := by simp; omega
    clear hn hl hx hc hn2
    go_enter Tryd.func59, Tryd.ntmps59
    go_wp2_with fail
    go_ret2
    exact HexOk.bad rfl (Below.refl _ _)
end Go.Proofs.YtoejflnlkapkiaaDoor
