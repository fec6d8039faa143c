/- Put together by program (merge2.py): Shf Shg Shh Shi Shj Shk Shl Shb. -/
import Derived.Test.YtoejflnlkapkiaaDoorSy10
/- Reference 42's Hex. -/
namespace Go.Proofs.YtoejflnlkapkiaaDoor
open Go.ChangeShapes Go.WideShapes Go.ChangeAt Go.RowKit
set_option linter.unusedVariables false
set_option linter.unusedSimpArgs false
theorem hexes_at : ∀ k : Fin 16, (hexes.extract k.val (k.val + 1)).data.toList = [hexD k.val] := by decide +kernel
theorem hx_size (s : ByteArray) (i : Nat) (h : i ≤ s.size) : (⟨(hexT s i).toArray⟩ : ByteArray).size = 2 * i := by
  have e : (⟨(hexT s i).toArray⟩ : ByteArray).size = (hexT s i).length := by simp [ByteArray.size]
  rw [e, hexT_len s i h]
set_option maxRecDepth 100000 in
set_option maxHeartbeats 8000000 in
theorem r42_hex (s : ByteArray) (hs : s.size ≤ 10000000) (W : World) : Calls Tryd.prog 43 #[.string s] W fun e w' => e = .returned (.string ⟨(hexB s).toArray⟩) ∧ Below W.heap.size W w' := by
  have HS := Lib.hid hs
  clear hs
  go_enter Tryd.func43, Tryd.ntmps43
  go_wp2_with fail
  go_loopw [3, 5, 6, 7] (fun t j _ _ wr => ∃ i : Nat, t = .string ⟨(hexT s i).toArray⟩ ∧ j = .int .i64 i ∧ Hid (i ≤ s.size) ∧ Hid (Below W.heap.size W wr)) (fun _ j _ _ _ => s.size - (intOf j).toNat)
  case atStart => exact ⟨0, rfl, rfl, Lib.hid (Nat.zero_le _), Lib.hid (Below.refl _ _)⟩
  case round =>
    obtain ⟨i, rfl, rfl, HI, HB⟩ := hrel
    obtain ⟨x1, rfl⟩ : ∃ w, w = wr := ⟨_, rfl⟩
    obtain ⟨t, ht⟩ : ∃ t : ByteArray, ⟨(hexT s i).toArray⟩ = t := ⟨_, rfl⟩
    have hts : t.size = 2 * i := by rw [← ht]; exact hx_size s i HI.out
    rw [ht]
    have HTT := Lib.hid (show t.data.toList = hexT s i by rw [← ht])
    clear ht
    by_cases hi : i < s.size
    · have hii : (i : Int) < (s.size : Int) := by omega
      have hi0 : (0 : Int) ≤ (i : Int) := by omega
      have HIL := Lib.hid hi
      have HST := Lib.hid (hexT_step hi)
      have WK := Lib.hid (show wrap64 ((i : Int) + 1) = ((i + 1 : Nat) : Int) by have := HS.out; simp only [wrap64]; omega)
      have hxl : (s[i]'hi).toNat < 256 := UInt8.toNat_lt _
      obtain ⟨a, ha⟩ : ∃ a, (s[i]'hi).toNat / 16 = a := ⟨_, rfl⟩
      obtain ⟨b, hb⟩ : ∃ b, (s[i]'hi).toNat % 16 = b := ⟨_, rfl⟩
      have ha16 : a < 16 := by omega
      have hb16 : b < 16 := by omega
      rw [ha, hb] at HST
      have hd1 : (((s[i]'hi).toNat : Nat) : Int).tdiv 16 = (a : Int) := by rw [Int.tdiv_eq_ediv_of_nonneg (by omega)]; omega
      have hd2 : (((s[i]'hi).toNat : Nat) : Int) / 16 = (a : Int) := by omega
      have hm1 : (((s[i]'hi).toNat : Nat) : Int).tmod 16 = (b : Int) := by rw [Int.tmod_eq_emod_of_nonneg (by omega)]; omega
      have hm2 : (((s[i]'hi).toNat : Nat) : Int) % 16 = (b : Int) := by omega
      have hsa := sub_at hexes a (a + 1) (by omega) (by show a + 1 ≤ 16; omega)
      have hsb := sub_at hexes b (b + 1) (by omega) (by show b + 1 ≤ 16; omega)
      have hda := hexes_at ⟨a, ha16⟩
      have hdb := hexes_at ⟨b, hb16⟩
      simp only at hda hdb
      obtain ⟨y, hy⟩ : ∃ y, hexes.extract a (a + 1) = y := ⟨_, rfl⟩
      obtain ⟨z, hz⟩ : ∃ z, hexes.extract b (b + 1) = z := ⟨_, rfl⟩
      rw [hy] at hsa hda
      rw [hz] at hsb hdb
      simp only [Int.natCast_add, Int.natCast_one] at hsa hsb
      have hys : y.size = 1 := by rw [Lib.size_eq, hda]; rfl
      have hzs : z.size = 1 := by rw [Lib.size_eq, hdb]; rfl
      have h7 := HS.out
      have hadd : ∀ wx : World, (Op.stringOp .add t y).run Tryd.prog wx = .ok (.string (t ++ y)) wx := fun wx => run_string_add_sum wx _ _ (by omega)
      obtain ⟨q, hq⟩ : ∃ q, t ++ y = q := ⟨_, rfl⟩
      have hqs : q.size = 2 * i + 1 := by rw [← hq, ByteArray.size_append]; omega
      rw [hq] at hadd
      have hadd2 : ∀ wx : World, (Op.stringOp .add q z).run Tryd.prog wx = .ok (.string (q ++ z)) wx := fun wx => run_string_add_sum wx _ _ (by omega)
      obtain ⟨r, hr⟩ : ∃ r, q ++ z = r := ⟨_, rfl⟩
      rw [hr] at hadd2
      have HF := Lib.hid (show r = ⟨(hexT s (i + 1)).toArray⟩ by
        apply ba_ext
        rw [HST.out, ← hr, ByteArray.data_append, Array.toList_append, ← hq, ByteArray.data_append, Array.toList_append, hda, hdb, HTT.out, List.append_assoc]; rfl)
      unfold hexes at hsa hsb
      clear hda hdb hys hzs hqs hq hr hy hz ha hb hts h7
      go_wp2_with fail
      go_quiet (fail)
      have HB2 := Lib.hid (below_drewN HB.out nq)
      generalize x1.drewN nq = x2 at *
      have wa1 : IntKind.i64.wrap ((a : Int) + 1) = (a : Int) + 1 := IntWalk.i64_in _ (by omega)
      have wb1 : IntKind.i64.wrap ((b : Int) + 1) = (b : Int) + 1 := IntWalk.i64_in _ (by omega)
      clear hd1 hd2 hm1 hm2 hxl
      go_wp2_with fail
      go_quiet (fail)
      have HB3 := Lib.hid (below_drewN HB2.out nq)
      clear wa1 wb1
      go_wp2_with fail
      go_roundw
      case rel => exact ⟨i + 1, by rw [HF.out], by first | rw [WK.out] | simp, Lib.hid HIL.out, HB3⟩
      case measure => first | exact sc_meas' s.size i HIL.out | (rw [WK.out]; exact sc_meas s.size i HIL.out)
    · have h9 : i = s.size := by have := HI.out; omega
      subst h9
      have hii : ¬ (s.size : Int) < (s.size : Int) := by omega
      have HF := Lib.hid (show t = ⟨(hexB s).toArray⟩ by rw [← hexT_all]; exact ba_ext HTT.out)
      go_wp2_with fail
      go_ret
      exact ⟨by rw [HF.out]; rfl, HB.out⟩
end Go.Proofs.YtoejflnlkapkiaaDoor
/- Reference 42's names, Call. -/
namespace Go.Proofs.YtoejflnlkapkiaaDoor
open Go.ChangeShapes Go.WideShapes Go.ChangeAt Go.RowKit
set_option linter.unusedVariables false
set_option linter.unusedSimpArgs false
def nmA : Array Value := #[.string ⟨#[]⟩, .string (wdK 1), .string (wdK 2), .string (wdK 3), .string (wdK 4), .string (wdK 5), .string (wdK 6), .string (wdK 7)]
def NamesOk (W : World) (e : Ending) (w' : World) : Prop := e = .returned (.slice (some ⟨W.heap.size, 0, none⟩) 8 8) ∧ Below W.heap.size W w' ∧ ∀ k : Nat, k < 8 → w'.cell? ⟨W.heap.size, k, none⟩ = some (.string (wdK (k : Int)))
theorem wd0 : wdK 0 = ⟨#[]⟩ := by decide +kernel
theorem nm_cell (k : Fin 8) : nmA[k.1]? = some (.string (wdK (k.1 : Int))) := by
  match k with
  | ⟨0, _⟩ => show _ = some (Value.string (wdK 0)); rw [wd0]; rfl
  | ⟨1, _⟩ => rfl
  | ⟨2, _⟩ => rfl
  | ⟨3, _⟩ => rfl
  | ⟨4, _⟩ => rfl
  | ⟨5, _⟩ => rfl
  | ⟨6, _⟩ => rfl
  | ⟨7, _⟩ => rfl
set_option maxRecDepth 100000 in
set_option maxHeartbeats 4000000 in
theorem r42_names (W : World) : Calls Tryd.prog 42 #[] W (NamesOk W) := by
  have HF := Lib.hid (show NamesOk W (.returned (.slice (some ⟨W.heap.size, 0, none⟩) 8 8)) (W.alloc (.cells nmA 9)) from
    ⟨rfl, (Below.refl _ _).alloc (Nat.le_refl _) _, fun k hk => by
      rw [cell_of_row _ _ _ _ _ _ (heap_alloc_new _ _)]
      exact nm_cell ⟨k, hk⟩⟩)
  go_enter Tryd.func42, Tryd.ntmps42
  go_wp2_with fail
  go_ret
  exact HF.out
/-- A call's line, without its end. -/
def clT (c : Cl) : List UInt8 := Lib.join ((wsC c).map (·.data.toList)) [32]
def CallOk (c : Cl) (W : World) (e : Ending) (w' : World) : Prop := (∃ s : ByteArray, s.data.toList = clT c ∧ e = .returned (.string s)) ∧ Below W.heap.size W w'
theorem clT_key {c : Cl} (h : c.kd = 1 ∨ c.kd = 2 ∨ c.kd = 3) : clT c = intsT (wdK c.kd) [c.n, c.dir] := by
  unfold clT intsT wsC; rw [if_pos h]
set_option maxRecDepth 100000 in
set_option maxHeartbeats 8000000 in
theorem r42_call_key (c : Cl) (x : Value) (W : World) (hx : ∃ p n k, x = .slice p n k) (hk : c.kd = 1 ∨ c.kd = 2 ∨ c.kd = 3) (hc : c.ok) : Calls Tryd.prog 26 #[c.val x] W (CallOk c W) := by
  have hT := clT_key hk
  obtain ⟨p, pn, pk, rfl⟩ := hx
  obtain ⟨kd, a, b, s, who, ar, xs⟩ := c
  have hn := hc.n
  have hd := hc.dir
  simp only at hk hn hd hT
  have HT := Lib.hid hT
  have ND := Lib.hid (And.intro hn hd)
  clear hc hT hn hd
  show Calls Tryd.prog 26 #[.agg #[.int .i64 kd, .int .i64 a, .int .i64 b, .string s, .int .i64 who, .int .i64 ar, .slice p pn pk]] W (CallOk ⟨kd, a, b, s, who, ar, xs⟩ W)
  obtain ⟨w0, hw0, r0, hB0, hs0⟩ := boxG W #[.int .i64 kd, .int .i64 a, .int .i64 b, .string s, .int .i64 who, .int .i64 ar, .slice p pn pk] 49
  obtain ⟨x0, x1, x2, x3, x4, x5, x6⟩ := cells7 r0
  have HB0 := Lib.hid hB0
  have HS0 := Lib.hid hs0
  have HR0 := Lib.hid r0
  have NM := Lib.hid (fun w : World => r42_names w)
  clear r0 hB0 hs0
  have NM2 := Lib.hid (show Calls Tryd.prog 42 #[] w0.drew fun e w' => e = .returned (.slice (some ⟨w0.heap.size, 0, none⟩) 8 8) ∧ Below w0.heap.size w0 w' ∧ ∀ k : Nat, k < 8 → w'.cell? ⟨w0.heap.size, k, none⟩ = some (.string (wdK (k : Int))) from
    (NM.out w0.drew).mono (by
      intro e w' h
      have hd : w0.drew.heap.size = w0.heap.size := by simp
      unfold NamesOk at h
      rw [hd] at h
      obtain ⟨h1, h2, h3⟩ := h
      exact ⟨h1, (Below.refl w0.heap.size w0).drew.trans h2, h3⟩))
  obtain ⟨kk, hkk⟩ : ∃ kk, wdK kd = kk := ⟨_, rfl⟩
  have hks : kk.size ≤ 1000 := by
    rw [← hkk]
    rcases hk with rfl | rfl | rfl <;> decide +kernel
  rw [hkk] at HT
  have HNK := Lib.hid (show ∀ w2 : World, (∀ k : Nat, k < 8 → w2.cell? ⟨w0.heap.size, k, none⟩ = some (.string (wdK (k : Int)))) → ∀ j : Nat, j < 8 → (j : Int) = kd → w2.cell? ⟨w0.heap.size, j, none⟩ = some (.string kk) from fun w2 h j hj he => by rw [h j hj, he, hkk])
  have NU2 := Lib.hid (fun (w2 : World) => r42_ints kk (some ⟨w2.heap.size, 0, none⟩) 2 2 [a, b] (w2.alloc (.cells #[.int .i64 a, .int .i64 b] 3)) (rowI2 w2 a b ND.out.1 ND.out.2) (by decide) hks)
  clear hkk hks
  have CL := Lib.hid (fun (w2 : World) (hb : Below w0.heap.size w0 w2) => cells7 ((hb.block _ (by have := HS0.out; omega)).trans HR0.out))

  rcases hk with rfl | rfl | rfl
  case' inl => have HK := Lib.hid (fun w2 h => HNK.out w2 h 1 (by decide) rfl)
  case' inr.inl => have HK := Lib.hid (fun w2 h => HNK.out w2 h 2 (by decide) rfl)
  case' inr.inr => have HK := Lib.hid (fun w2 h => HNK.out w2 h 3 (by decide) rfl)
  all_goals
    clear HNK
    go_enter Tryd.func26, Tryd.ntmps26
    go_wp2_with fail
    go_region_with (go_at_call 42; go_loud (with_reducible refine NM2.out.mono ?_; rintro e w2 ⟨rfl, hb2, hc2⟩; obtain ⟨x0, x1, x2, x3, x4, x5, x6⟩ := CL.out w2 hb2; have hk2 := HK.out w2 hc2; have HB2 := Lib.hid hb2; clear hb2 hc2))
    all_goals
      have NU := Lib.hid (NU2.out w2)
      go_wp2_with fail
      refine NU.out.mono ?_
      rintro e w3 ⟨t, ht, rfl, hb3⟩
      have HTT := Lib.hid (ht.trans HT.out.symm)
      have HBF := Lib.hid (HB0.out.trans ((HB2.out.trans ((((Below.refl w2.heap.size w2).alloc (Nat.le_refl _) _).trans (hb3.mono (by simp))).mono HB2.out.size)).mono HB0.out.size))
      clear ht hb3
      go_wp2_with fail
      go_ret
      exact ⟨⟨t, HTT.out, rfl⟩, HBF.out⟩
end Go.Proofs.YtoejflnlkapkiaaDoor
/- Reference 42's Call, of the other kinds. -/
namespace Go.Proofs.YtoejflnlkapkiaaDoor
open Go.ChangeShapes Go.WideShapes Go.ChangeAt Go.RowKit
set_option linter.unusedVariables false
set_option linter.unusedSimpArgs false
theorem clT_of {c : Cl} (h : c.kd = 7) : clT c = intsT (wdK c.kd) [c.who, c.at'] := by
  unfold clT intsT wsC; simp [h]
theorem clT_word {c : Cl} (h : c.kd = 5) : clT c = (wdK 5).data.toList := by
  unfold clT wsC; simp [h, Lib.join_one]
theorem clT_none {c : Cl} (h : c.kd = 4) (he : c.s.data.toList = []) : clT c = (wdK 4).data.toList := by
  unfold clT wsC; simp [h, he, Lib.join_one]
theorem clT_text {c : Cl} (h : c.kd = 4) (he : c.s.data.toList ≠ []) : clT c = (wdK 4).data.toList ++ ([32] ++ hexB c.s) := by
  unfold clT wsC; simp [h, he, Lib.join, List.intercalate]
set_option maxRecDepth 100000 in
set_option maxHeartbeats 8000000 in
theorem r42_call_of (c : Cl) (x : Value) (W : World) (hx : ∃ p n k, x = .slice p n k) (hk : c.kd = 7) (hc : c.ok) : Calls Tryd.prog 26 #[c.val x] W (CallOk c W) := by
  have hT := clT_of hk
  obtain ⟨p, pn, pk, rfl⟩ := hx
  obtain ⟨kd, a, b, s, who, ar, xs⟩ := c
  have hn := hc.who
  have hd := hc.at'
  simp only at hk hn hd hT
  have HT := Lib.hid hT
  have ND := Lib.hid (And.intro hn hd)
  clear hc hT hn hd
  show Calls Tryd.prog 26 #[.agg #[.int .i64 kd, .int .i64 a, .int .i64 b, .string s, .int .i64 who, .int .i64 ar, .slice p pn pk]] W (CallOk ⟨kd, a, b, s, who, ar, xs⟩ W)
  obtain ⟨w0, hw0, r0, hB0, hs0⟩ := boxG W #[.int .i64 kd, .int .i64 a, .int .i64 b, .string s, .int .i64 who, .int .i64 ar, .slice p pn pk] 49
  obtain ⟨x0, x1, x2, x3, x4, x5, x6⟩ := cells7 r0
  have HB0 := Lib.hid hB0
  have HS0 := Lib.hid hs0
  have HR0 := Lib.hid r0
  have NM := Lib.hid (fun w : World => r42_names w)
  clear r0 hB0 hs0
  have NM2 := Lib.hid (show Calls Tryd.prog 42 #[] w0.drew fun e w' => e = .returned (.slice (some ⟨w0.heap.size, 0, none⟩) 8 8) ∧ Below w0.heap.size w0 w' ∧ ∀ k : Nat, k < 8 → w'.cell? ⟨w0.heap.size, k, none⟩ = some (.string (wdK (k : Int))) from
    (NM.out w0.drew).mono (by
      intro e w' h
      have hd : w0.drew.heap.size = w0.heap.size := by simp
      unfold NamesOk at h
      rw [hd] at h
      obtain ⟨h1, h2, h3⟩ := h
      exact ⟨h1, (Below.refl w0.heap.size w0).drew.trans h2, h3⟩))
  obtain ⟨kk, hkk⟩ : ∃ kk, wdK kd = kk := ⟨_, rfl⟩
  have hks : kk.size ≤ 1000 := by
    rw [← hkk]
    rw [hk]; decide +kernel
  rw [hkk] at HT
  have HNK := Lib.hid (show ∀ w2 : World, (∀ k : Nat, k < 8 → w2.cell? ⟨w0.heap.size, k, none⟩ = some (.string (wdK (k : Int)))) → ∀ j : Nat, j < 8 → (j : Int) = kd → w2.cell? ⟨w0.heap.size, j, none⟩ = some (.string kk) from fun w2 h j hj he => by rw [h j hj, he, hkk])
  have NU2 := Lib.hid (fun (w2 : World) => r42_ints kk (some ⟨w2.heap.size, 0, none⟩) 2 2 [who, ar] (w2.alloc (.cells #[.int .i64 who, .int .i64 ar] 3)) (rowI2 w2 who ar ND.out.1 ND.out.2) (by decide) hks)
  clear hkk hks
  have CL := Lib.hid (fun (w2 : World) (hb : Below w0.heap.size w0 w2) => cells7 ((hb.block _ (by have := HS0.out; omega)).trans HR0.out))

  subst hk
  have HK := Lib.hid (fun w2 h => HNK.out w2 h 7 (by decide) rfl)
  clear HNK
  go_enter Tryd.func26, Tryd.ntmps26
  go_wp2_with fail
  go_region_with (go_at_call 42; go_loud (with_reducible refine NM2.out.mono ?_; rintro e w2 ⟨rfl, hb2, hc2⟩; obtain ⟨x0, x1, x2, x3, x4, x5, x6⟩ := CL.out w2 hb2; have hk2 := HK.out w2 hc2; have HB2 := Lib.hid hb2; clear hb2 hc2))
  all_goals
    have NU := Lib.hid (NU2.out w2)
    go_wp2_with fail
    refine NU.out.mono ?_
    rintro e w3 ⟨t, ht, rfl, hb3⟩
    have HTT := Lib.hid (ht.trans HT.out.symm)
    have hb23 := HB2.out.trans ((((Below.refl w2.heap.size w2).alloc (Nat.le_refl _) _).trans (hb3.mono (by simp))).mono HB2.out.size)
    obtain ⟨x0, x1, x2, x3, x4, x5, x6⟩ := CL.out w3 hb23
    have HBF := Lib.hid (HB0.out.trans (hb23.mono HB0.out.size))
    clear ht hb3 hb23
    go_wp2_with fail
    refine wp_loop_rounds 1 ?_
    rw [rounds_succ]
    go_wp2_with fail
    go_ret
    exact ⟨⟨t, HTT.out, rfl⟩, HBF.out⟩
end Go.Proofs.YtoejflnlkapkiaaDoor
/- Reference 42's Call, of one word. -/
namespace Go.Proofs.YtoejflnlkapkiaaDoor
open Go.ChangeShapes Go.WideShapes Go.ChangeAt Go.RowKit
set_option linter.unusedVariables false
set_option linter.unusedSimpArgs false
set_option maxRecDepth 100000 in
set_option maxHeartbeats 8000000 in
theorem r42_call_word (c : Cl) (x : Value) (W : World) (hx : ∃ p n k, x = .slice p n k) (hk : c.kd = 5 ∨ c.kd = 4 ∧ c.s.data.toList = []) : Calls Tryd.prog 26 #[c.val x] W (CallOk c W) := by
  have hT : clT c = (wdK c.kd).data.toList := by
    rcases hk with h | ⟨h, he⟩
    · rw [clT_word h, h]
    · rw [clT_none h he, h]
  obtain ⟨p, pn, pk, rfl⟩ := hx
  obtain ⟨kd, a, b, s, who, ar, xs⟩ := c
  simp only at hk hT
  have HT := Lib.hid hT
  clear hT
  show Calls Tryd.prog 26 #[.agg #[.int .i64 kd, .int .i64 a, .int .i64 b, .string s, .int .i64 who, .int .i64 ar, .slice p pn pk]] W (CallOk ⟨kd, a, b, s, who, ar, xs⟩ W)
  obtain ⟨w0, hw0, r0, hB0, hs0⟩ := boxG W #[.int .i64 kd, .int .i64 a, .int .i64 b, .string s, .int .i64 who, .int .i64 ar, .slice p pn pk] 49
  obtain ⟨x0, x1, x2, x3, x4, x5, x6⟩ := cells7 r0
  have HB0 := Lib.hid hB0
  have HS0 := Lib.hid hs0
  have HR0 := Lib.hid r0
  have NM := Lib.hid (fun w : World => r42_names w)
  clear r0 hB0 hs0
  have NM2 := Lib.hid (show Calls Tryd.prog 42 #[] w0.drew fun e w' => e = .returned (.slice (some ⟨w0.heap.size, 0, none⟩) 8 8) ∧ Below w0.heap.size w0 w' ∧ ∀ k : Nat, k < 8 → w'.cell? ⟨w0.heap.size, k, none⟩ = some (.string (wdK (k : Int))) from
    (NM.out w0.drew).mono (by
      intro e w' h
      have hd : w0.drew.heap.size = w0.heap.size := by simp
      unfold NamesOk at h
      rw [hd] at h
      obtain ⟨h1, h2, h3⟩ := h
      exact ⟨h1, (Below.refl w0.heap.size w0).drew.trans h2, h3⟩))
  obtain ⟨kk, hkk⟩ : ∃ kk, wdK kd = kk := ⟨_, rfl⟩
  have hks : kk.size ≤ 1000 := by
    rw [← hkk]
    rcases hk with rfl | ⟨rfl, -⟩ <;> decide +kernel
  rw [hkk] at HT
  have HNK := Lib.hid (show ∀ w2 : World, (∀ k : Nat, k < 8 → w2.cell? ⟨w0.heap.size, k, none⟩ = some (.string (wdK (k : Int)))) → ∀ j : Nat, j < 8 → (j : Int) = kd → w2.cell? ⟨w0.heap.size, j, none⟩ = some (.string kk) from fun w2 h j hj he => by rw [h j hj, he, hkk])
  clear hkk hks
  have CL := Lib.hid (fun (w2 : World) (hb : Below w0.heap.size w0 w2) => cells7 ((hb.block _ (by have := HS0.out; omega)).trans HR0.out))

  have e0 : kd = 4 → s.toList.isEmpty = true := fun h => by
    rcases hk with h5 | ⟨-, he⟩
    · omega
    · rw [sc_str_nil]; exact decide_eq_true he
  rcases hk with rfl | ⟨rfl, he⟩
  case' inl => have HK := Lib.hid (fun w2 h => HNK.out w2 h 5 (by decide) rfl)
  case' inr => have HK := Lib.hid (fun w2 h => HNK.out w2 h 4 (by decide) rfl)
  case' inr => have e4 := e0 rfl
  all_goals
    clear HNK e0
    go_enter Tryd.func26, Tryd.ntmps26
    go_wp2_with fail
    go_region_with (go_at_call 42; go_loud (with_reducible refine NM2.out.mono ?_; rintro e w2 ⟨rfl, hb2, hc2⟩; obtain ⟨x0, x1, x2, x3, x4, x5, x6⟩ := CL.out w2 hb2; have hk2 := HK.out w2 hc2; have HB2 := Lib.hid hb2; clear hb2 hc2))
    all_goals
      have HBF := Lib.hid (HB0.out.trans (HB2.out.mono HB0.out.size))
      go_wp2_with fail
      go_ret
      exact ⟨⟨kk, HT.out.symm, rfl⟩, HBF.out⟩
end Go.Proofs.YtoejflnlkapkiaaDoor
/- Reference 42's Call, of a text. -/
namespace Go.Proofs.YtoejflnlkapkiaaDoor
open Go.ChangeShapes Go.WideShapes Go.ChangeAt Go.RowKit
set_option linter.unusedVariables false
set_option linter.unusedSimpArgs false
set_option maxRecDepth 100000 in
set_option maxHeartbeats 8000000 in
theorem r42_call_text (c : Cl) (x : Value) (W : World) (hx : ∃ p n k, x = .slice p n k) (hk : c.kd = 4) (he : c.s.data.toList ≠ []) (hs : c.s.size ≤ 10000000) : Calls Tryd.prog 26 #[c.val x] W (CallOk c W) := by
  have hT := clT_text hk he
  obtain ⟨p, pn, pk, rfl⟩ := hx
  obtain ⟨kd, a, b, s, who, ar, xs⟩ := c
  simp only at hk hT he hs
  have HT := Lib.hid hT
  clear hT
  show Calls Tryd.prog 26 #[.agg #[.int .i64 kd, .int .i64 a, .int .i64 b, .string s, .int .i64 who, .int .i64 ar, .slice p pn pk]] W (CallOk ⟨kd, a, b, s, who, ar, xs⟩ W)
  obtain ⟨w0, hw0, r0, hB0, hs0⟩ := boxG W #[.int .i64 kd, .int .i64 a, .int .i64 b, .string s, .int .i64 who, .int .i64 ar, .slice p pn pk] 49
  obtain ⟨x0, x1, x2, x3, x4, x5, x6⟩ := cells7 r0
  have HB0 := Lib.hid hB0
  have HS0 := Lib.hid hs0
  have HR0 := Lib.hid r0
  have NM := Lib.hid (fun w : World => r42_names w)
  clear r0 hB0 hs0
  have NM2 := Lib.hid (show Calls Tryd.prog 42 #[] w0.drew fun e w' => e = .returned (.slice (some ⟨w0.heap.size, 0, none⟩) 8 8) ∧ Below w0.heap.size w0 w' ∧ ∀ k : Nat, k < 8 → w'.cell? ⟨w0.heap.size, k, none⟩ = some (.string (wdK (k : Int))) from
    (NM.out w0.drew).mono (by
      intro e w' h
      have hd : w0.drew.heap.size = w0.heap.size := by simp
      unfold NamesOk at h
      rw [hd] at h
      obtain ⟨h1, h2, h3⟩ := h
      exact ⟨h1, (Below.refl w0.heap.size w0).drew.trans h2, h3⟩))
  obtain ⟨kk, hkk⟩ : ∃ kk, wdK kd = kk := ⟨_, rfl⟩
  have hks : kk.size ≤ 1000 := by
    rw [← hkk]
    rw [hk]; decide +kernel
  have hk4 : wdK 4 = kk := by rw [← hkk, hk]
  rw [hk4] at HT
  have HNK := Lib.hid (show ∀ w2 : World, (∀ k : Nat, k < 8 → w2.cell? ⟨w0.heap.size, k, none⟩ = some (.string (wdK (k : Int)))) → ∀ j : Nat, j < 8 → (j : Int) = kd → w2.cell? ⟨w0.heap.size, j, none⟩ = some (.string kk) from fun w2 h j hj he => by rw [h j hj, he, hkk])
  have e4 : s.toList.isEmpty = false := sc_no_nil he
  have HX := Lib.hid (fun w : World => r42_hex s hs w)
  have hhl : (⟨(hexB s).toArray⟩ : ByteArray).size = 2 * s.size := by
    have h1 := hexT_len s s.size (Nat.le_refl _)
    rw [hexT_all] at h1
    rw [← h1]; simp [ByteArray.size]
  have hadd1 : ∀ wx : World, (Op.stringOp .add kk ⟨#[32]⟩).run Tryd.prog wx = .ok (.string (kk ++ ⟨#[32]⟩)) wx := fun wx => run_string_add_sum wx _ _ (by show kk.size + 1 ≤ _; omega)
  obtain ⟨t1, ht1⟩ : ∃ t1, kk ++ (⟨#[32]⟩ : ByteArray) = t1 := ⟨_, rfl⟩
  have hts : t1.data.toList = kk.data.toList ++ [32] := by rw [← ht1, ByteArray.data_append, Array.toList_append]
  have hts1 : t1.size = kk.size + 1 := by rw [Lib.size_eq, hts, List.length_append, ← Lib.size_eq]; rfl
  rw [ht1] at hadd1
  obtain ⟨hx, hhx⟩ : ∃ hx : ByteArray, ⟨(hexB s).toArray⟩ = hx := ⟨_, rfl⟩
  rw [hhx] at hhl HX
  have hadd2 : ∀ wx : World, (Op.stringOp .add t1 hx).run Tryd.prog wx = .ok (.string (t1 ++ hx)) wx := fun wx => run_string_add_sum wx _ _ (by omega)
  obtain ⟨t2, ht2⟩ : ∃ t2, t1 ++ hx = t2 := ⟨_, rfl⟩
  rw [ht2] at hadd2
  have HT2 := Lib.hid (show t2.data.toList = clT ⟨kd, a, b, s, who, ar, xs⟩ by
    rw [HT.out, ← ht2, ByteArray.data_append, Array.toList_append, hts, ← hhx, List.append_assoc])
  clear hkk hks hk4 hhl ht1 hts hts1 hhx ht2 he
  have CL := Lib.hid (fun (w2 : World) (hb : Below w0.heap.size w0 w2) => cells7 ((hb.block _ (by have := HS0.out; omega)).trans HR0.out))

  subst hk
  have HK := Lib.hid (fun w2 h => HNK.out w2 h 4 (by decide) rfl)
  clear HNK
  go_enter Tryd.func26, Tryd.ntmps26
  go_wp2_with fail
  go_region_with (go_at_call 42; go_loud (with_reducible refine NM2.out.mono ?_; rintro e w2 ⟨rfl, hb2, hc2⟩; obtain ⟨x0, x1, x2, x3, x4, x5, x6⟩ := CL.out w2 hb2; have hk2 := HK.out w2 hc2; have HB2 := Lib.hid hb2; clear hb2 hc2))
  all_goals
    have HX2 := HX.out w2
    go_wp2_with fail
    refine HX2.mono ?_
    rintro e w3 ⟨rfl, hb3⟩
    have HBF := Lib.hid (HB0.out.trans ((HB2.out.trans (hb3.mono HB2.out.size)).mono HB0.out.size))
    clear hb3
    go_wp2_with fail
    go_ret
    exact ⟨⟨t2, HT2.out, rfl⟩, HBF.out⟩
end Go.Proofs.YtoejflnlkapkiaaDoor
/- Reference 42's Call, of execute. -/
namespace Go.Proofs.YtoejflnlkapkiaaDoor
open Go.ChangeShapes Go.WideShapes Go.ChangeAt Go.RowKit
set_option linter.unusedVariables false
set_option linter.unusedSimpArgs false
def exT (K : ByteArray) (who ar : Int) (xs : List Int) (k : Nat) : List UInt8 := intsT K [who, ar] ++ Lib.joinTail [32] ((xs.take k).map fun x => Lib.decDigits x.toNat)
theorem exT_zero (K : ByteArray) (who ar : Int) (xs : List Int) : exT K who ar xs 0 = intsT K [who, ar] := by unfold exT; simp [Lib.joinTail]
theorem exT_step {K : ByteArray} {who ar : Int} {xs : List Int} {k : Nat} (h : k < xs.length) : exT K who ar xs (k + 1) = exT K who ar xs k ++ (32 :: Lib.decDigits (xs.getD k 0).toNat) := by
  have e : (xs.map fun x => Lib.decDigits x.toNat)[k]? = some (Lib.decDigits (xs.getD k 0).toNat) := by
    rw [List.getElem?_map, List.getD_eq_getElem?_getD, List.getElem?_eq_getElem h]; rfl
  unfold exT
  rw [List.map_take, List.map_take, Lib.joinTail_take_succ _ _ _ _ e]
  simp
theorem exT_len {K : ByteArray} {who ar : Int} {xs : List Int} (hw : ∀ k, k < xs.length → 0 ≤ xs.getD k 0 ∧ xs.getD k 0 < 18446744073709551616) (h1 : i64r who) (h2 : i64r ar) : ∀ k, k ≤ xs.length → (exT K who ar xs k).length ≤ K.size + 44 + 21 * k
  | 0, _ => by
    have h := intsT_len (f := K) (xs := [who, ar]) (fun k hk => by
      match k, hk with
      | 0, _ => exact h1
      | 1, _ => exact h2) 2 (by simp)
    rw [exT_zero]
    exact h
  | k + 1, h => by
    have h3 := exT_len (K := K) hw h1 h2 k (by omega)
    obtain ⟨h4, h5⟩ := hw k (by omega)
    have h6 := dec_len20 (n := (xs.getD k 0).toNat) (by omega)
    rw [exT_step (by omega), List.length_append, List.length_cons]
    omega
theorem clT_exec {c : Cl} (h : c.kd = 6) : clT c = exT (wdK c.kd) c.who c.at' c.xs c.xs.length := by
  unfold clT exT intsT wsC
  rw [List.take_length]
  simp [h, wsL, Lib.join_cons, Lib.joinTail]
  rfl
set_option maxRecDepth 100000 in
set_option maxHeartbeats 8000000 in
theorem r42_call_exec (c : Cl) (x : Value) (W : World) (hx : RowX W x c.xs) (hk : c.kd = 6) (hc : c.ok) (hn : c.xs.length ≤ 1000000) : Calls Tryd.prog 26 #[c.val x] W (CallOk c W) := by
  have hT := clT_exec hk
  obtain ⟨p, pk, rfl, hr⟩ := hx
  obtain ⟨kd, a, b, s, who, ar, xs⟩ := c
  have hwho := hc.who
  have hd := hc.at'
  simp only at hk hn hwho hd hT hr
  have HT := Lib.hid hT
  have HN := Lib.hid hn
  have HRW := Lib.hid hr
  have ND := Lib.hid (And.intro hwho hd)
  clear hc hT hn hwho hd hr
  show Calls Tryd.prog 26 #[.agg #[.int .i64 kd, .int .i64 a, .int .i64 b, .string s, .int .i64 who, .int .i64 ar, .slice p xs.length pk]] W (CallOk ⟨kd, a, b, s, who, ar, xs⟩ W)
  obtain ⟨w0, hw0, r0, hB0, hs0⟩ := boxG W #[.int .i64 kd, .int .i64 a, .int .i64 b, .string s, .int .i64 who, .int .i64 ar, .slice p xs.length pk] 49
  obtain ⟨x0, x1, x2, x3, x4, x5, x6⟩ := cells7 r0
  have HB0 := Lib.hid hB0
  have HS0 := Lib.hid hs0
  have HR0 := Lib.hid r0
  have NM := Lib.hid (fun w : World => r42_names w)
  clear r0 hB0 hs0
  have NM2 := Lib.hid (show Calls Tryd.prog 42 #[] w0.drew fun e w' => e = .returned (.slice (some ⟨w0.heap.size, 0, none⟩) 8 8) ∧ Below w0.heap.size w0 w' ∧ ∀ k : Nat, k < 8 → w'.cell? ⟨w0.heap.size, k, none⟩ = some (.string (wdK (k : Int))) from
    (NM.out w0.drew).mono (by
      intro e w' h
      have hd : w0.drew.heap.size = w0.heap.size := by simp
      unfold NamesOk at h
      rw [hd] at h
      obtain ⟨h1, h2, h3⟩ := h
      exact ⟨h1, (Below.refl w0.heap.size w0).drew.trans h2, h3⟩))
  obtain ⟨kk, hkk⟩ : ∃ kk, wdK kd = kk := ⟨_, rfl⟩
  have hks : kk.size ≤ 1000 := by
    rw [← hkk]
    rw [hk]; decide +kernel
  rw [hkk] at HT
  have HNK := Lib.hid (show ∀ w2 : World, (∀ k : Nat, k < 8 → w2.cell? ⟨w0.heap.size, k, none⟩ = some (.string (wdK (k : Int)))) → ∀ j : Nat, j < 8 → (j : Int) = kd → w2.cell? ⟨w0.heap.size, j, none⟩ = some (.string kk) from fun w2 h j hj he => by rw [h j hj, he, hkk])
  have NU2 := Lib.hid (fun (w2 : World) => r42_ints kk (some ⟨w2.heap.size, 0, none⟩) 2 2 [who, ar] (w2.alloc (.cells #[.int .i64 who, .int .i64 ar] 3)) (rowI2 w2 who ar ND.out.1 ND.out.2) (by decide) hks)
  have hks2 := hks
  clear hkk hks
  have CL := Lib.hid (fun (w2 : World) (hb : Below w0.heap.size w0 w2) => cells7 ((hb.block _ (by have := HS0.out; omega)).trans HR0.out))

  subst hk
  have HK := Lib.hid (fun w2 h => HNK.out w2 h 6 (by decide) rfl)
  have HKS := Lib.hid hks2
  clear HNK hks2
  go_enter Tryd.func26, Tryd.ntmps26
  go_wp2_with fail
  go_region_with (go_at_call 42; go_loud (with_reducible refine NM2.out.mono ?_; rintro e w2 ⟨rfl, hb2, hc2⟩; obtain ⟨x0, x1, x2, x3, x4, x5, x6⟩ := CL.out w2 hb2; have hk2 := HK.out w2 hc2; have HB2 := Lib.hid hb2; clear hb2 hc2))
  all_goals
    have NU := Lib.hid (NU2.out w2)
    go_wp2_with fail
    refine NU.out.mono ?_
    rintro e w3 ⟨t, ht, rfl, hb3⟩
    have HT0 := Lib.hid (show t.data.toList = exT kk who ar xs 0 by rw [ht, exT_zero])
    have HB3 := Lib.hid (HB2.out.trans ((((Below.refl w2.heap.size w2).alloc (Nat.le_refl _) _).trans (hb3.mono (by simp))).mono HB2.out.size))
    clear ht hb3 x0 x1 x2 x3 x4 x5 x6 hk2 NU
    go_wp2_with fail
    go_loopw [3, 4] (fun y j wr => ∃ (i : Nat) (t : ByteArray), y = .string t ∧ j = .int .i64 i ∧ Hid (i ≤ xs.length) ∧ Hid (t.data.toList = exT kk who ar xs i) ∧ Hid (Below w0.heap.size w0 wr)) (fun _ j _ => xs.length - (intOf j).toNat)
    case atStart => exact ⟨0, t, rfl, rfl, Lib.hid (Nat.zero_le _), HT0, HB3⟩
    case round =>
      obtain ⟨i, t, rfl, rfl, HI, HTT, HB⟩ := hrel
      obtain ⟨z1, rfl⟩ : ∃ w, w = wr := ⟨_, rfl⟩
      obtain ⟨x0, x1, x2, x3, x4, x5, x6⟩ := CL.out z1 HB.out
      by_cases hi : i < xs.length
      · obtain ⟨bb, off, rfl, hb, hc, u0, u1⟩ := (HRW.out.below (HB0.out.trans (HB.out.mono HB0.out.size))).cell hi
        have HIL := Lib.hid hi
        have hii : (i : Int) < (xs.length : Int) := by omega
        have hi0 : (0 : Int) ≤ (i : Int) := by omega
        have HST := Lib.hid (exT_step (K := kk) (who := who) (ar := ar) hi)
        obtain ⟨y, hy⟩ : ∃ y, xs.getD i 0 = y := ⟨_, rfl⟩
        rw [hy] at hc u0 u1 HST
        obtain ⟨m, rfl⟩ : ∃ m : Nat, y = m := ⟨y.toNat, by omega⟩
        have hm : m < 18446744073709551616 := by omega
        have WD := Lib.hid (r42_word m hm z1)
        have hdl := dec_len20 hm
        have htl : t.size ≤ 2000 + 21 * 1000000 := by
          have h1 := exT_len (K := kk) (xs := xs) (fun k hk => by obtain ⟨-, -, -, -, -, h8, h9⟩ := HRW.out.cell hk; exact ⟨h8, by omega⟩) ND.out.1 ND.out.2 i (Nat.le_of_lt hi)
          have h2 := HN.out
          have h3 := HKS.out
          rw [Lib.size_eq, HTT.out]; omega
        have WK := Lib.hid (show wrap64 ((i : Int) + 1) = ((i + 1 : Nat) : Int) by have := HN.out; simp only [wrap64]; omega)
        have hadd1 : ∀ wx : World, (Op.stringOp .add t ⟨#[32]⟩).run Tryd.prog wx = .ok (.string (t ++ ⟨#[32]⟩)) wx := fun wx => run_string_add_sum wx _ _ (by show t.size + 1 ≤ _; omega)
        obtain ⟨t1, ht1⟩ : ∃ t1, t ++ (⟨#[32]⟩ : ByteArray) = t1 := ⟨_, rfl⟩
        have hts : t1.data.toList = t.data.toList ++ [32] := by rw [← ht1, ByteArray.data_append, Array.toList_append]
        have hts1 : t1.size = t.size + 1 := by rw [Lib.size_eq, hts, List.length_append, ← Lib.size_eq]; rfl
        rw [ht1] at hadd1
        have HAD := Lib.hid (show ∀ d : ByteArray, d.data.toList = Lib.decDigits m → (∀ wx : World, (Op.stringOp .add t1 d).run Tryd.prog wx = .ok (.string (t1 ++ d)) wx) ∧ (t1 ++ d).data.toList = exT kk who ar xs (i + 1) from fun d hd =>
          ⟨fun wx => run_string_add_sum wx _ _ (by rw [Lib.size_eq d, hd]; omega), by rw [HST.out, ← HTT.out, ByteArray.data_append, Array.toList_append, hts, hd, List.append_assoc]; rfl⟩)
        clear hi hb hy u0 u1 hm hdl htl ht1 hts hts1
        go_wp2_with fail
        refine WD.out.mono ?_
        rintro e z2 ⟨rfl, d, hd, rfl⟩
        obtain ⟨hadd2, hd2⟩ := HAD.out d hd
        have HD2 := Lib.hid hd2
        clear hd hd2
        go_wp2_with fail
        go_roundw
        case rel => exact ⟨i + 1, t1 ++ d, rfl, by first | rw [WK.out] | simp, Lib.hid HIL.out, HD2, HB⟩
        case measure => first | exact sc_meas' xs.length i HIL.out | (rw [WK.out]; exact sc_meas xs.length i HIL.out)
      · have h9 : i = xs.length := by have := HI.out; omega
        subst h9
        have hii : ¬ (xs.length : Int) < (xs.length : Int) := by omega
        have HBF := Lib.hid (HB0.out.trans (HB.out.mono HB0.out.size))
        go_wp2_with fail
        go_ret
        exact ⟨⟨t, HTT.out.trans HT.out.symm, rfl⟩, HBF.out⟩
end Go.Proofs.YtoejflnlkapkiaaDoor
/- Reference 42's Call, of every kind; Text. -/
namespace Go.Proofs.YtoejflnlkapkiaaDoor
open Go.ChangeShapes Go.WideShapes Go.ChangeAt Go.RowKit
set_option linter.unusedVariables false
set_option linter.unusedSimpArgs false
theorem r42_call (c : Cl) (x : Value) (W : World) (hx : RowX W x c.xs) (hc : c.ok) (h1 : 1 ≤ c.kd) (h7 : c.kd ≤ 7) (hs : c.s.size ≤ 10000000) (hn : c.xs.length ≤ 1000000) : Calls Tryd.prog 26 #[c.val x] W (CallOk c W) := by
  have hp : ∃ p n k, x = .slice p n k := by obtain ⟨p, k, rfl, -⟩ := hx; exact ⟨_, _, _, rfl⟩
  by_cases h3 : c.kd = 1 ∨ c.kd = 2 ∨ c.kd = 3
  · exact r42_call_key c x W hp h3 hc
  by_cases h4 : c.kd = 4
  · by_cases he : c.s.data.toList = []
    · exact r42_call_word c x W hp (.inr ⟨h4, he⟩)
    · exact r42_call_text c x W hp h4 he hs
  by_cases h5 : c.kd = 5
  · exact r42_call_word c x W hp (.inl h5)
  by_cases h6 : c.kd = 6
  · exact r42_call_exec c x W hx h6 hc hn
  · exact r42_call_of c x W hp (by omega) hc
def txT (ls : List (List UInt8)) : List UInt8 := (ls.map fun l => l ++ [10]).flatten
theorem txT_step {ls : List (List UInt8)} {k : Nat} {l : List UInt8} (h : ls[k]? = some l) : txT (ls.take (k + 1)) = txT (ls.take k) ++ (l ++ [10]) := by
  unfold txT; rw [List.take_add_one, h]; simp
theorem txT_le {ls : List (List UInt8)} {k : Nat} {l : List UInt8} (h : ls[k]? = some l) : (txT (ls.take k)).length + l.length + 1 ≤ (txT ls).length := by
  have e : ls = ls.take k ++ l :: ls.drop (k + 1) := by
    have h2 := List.getElem?_eq_some_iff.1 h
    rw [← h2.2, List.getElem_cons_drop, List.take_append_drop]
  have : txT ls = txT (ls.take k) ++ ((l ++ [10]) ++ txT (ls.drop (k + 1))) := by
    conv => lhs; rw [e]
    unfold txT; simp
  rw [this]; simp only [List.length_append, List.length_cons, List.length_nil]; omega
set_option maxRecDepth 100000 in
set_option maxHeartbeats 4000000 in
theorem r42_text (v : Value) (ls : List (List UInt8)) (W : World) (h : RowS W v ls) (hn : ls.length ≤ 10000000) (hl : (txT ls).length ≤ 100000000) :
    Calls Tryd.prog 13 #[v] W fun e w' => (∃ s : ByteArray, s.data.toList = txT ls ∧ e = .returned (.string s)) ∧ Below W.heap.size W w' := by
  obtain ⟨p, c, rfl, hc, hx⟩ := h
  have HX := Lib.hid hx
  have HN := Lib.hid hn
  have HL := Lib.hid hl
  clear hx hn hl hc
  go_enter Tryd.func13, Tryd.ntmps13
  go_wp2_with fail
  go_loopw [3, 4] (fun y j wr => ∃ (k : Nat) (t : ByteArray), y = .string t ∧ j = .int .i64 k ∧ Hid (k ≤ ls.length) ∧ Hid (t.data.toList = txT (ls.take k)) ∧ Hid (Below W.heap.size W wr)) (fun _ j _ => ls.length - (intOf j).toNat)
  case atStart => exact ⟨0, ⟨#[]⟩, rfl, rfl, Lib.hid (Nat.zero_le _), Lib.hid rfl, Lib.hid (Below.refl _ _)⟩
  case round =>
    obtain ⟨k, t, rfl, rfl, HK, HT, HB⟩ := hrel
    obtain ⟨x1, rfl⟩ : ∃ w, w = wr := ⟨_, rfl⟩
    by_cases hk : k < ls.length
    · obtain ⟨l, hlk⟩ : ∃ l, ls[k]? = some l := ⟨_, List.getElem?_eq_getElem hk⟩
      rcases HX.out with h0 | ⟨b, o, rfl, hb, hcell⟩
      · rw [h0] at hk; cases hk
      have hc1 : x1.cell? ⟨b, o + k, none⟩ = some (.string ⟨l.toArray⟩) := (HB.out.cell (p := ⟨b, o + k, none⟩) hb).trans (hcell k l hlk)
      have HKL := Lib.hid hk
      have hkk : (k : Int) < (ls.length : Int) := by omega
      have hk0 : (0 : Int) ≤ (k : Int) := by omega
      have WK := Lib.hid (show wrap64 ((k : Int) + 1) = ((k + 1 : Nat) : Int) by have := HN.out; simp only [wrap64]; omega)
      have HST := Lib.hid (txT_step hlk)
      have hle := txT_le hlk
      have hL := HL.out
      have hts : t.size = (txT (ls.take k)).length := by rw [Lib.size_eq, HT.out]
      obtain ⟨z, hz⟩ : ∃ z : ByteArray, ⟨l.toArray⟩ = z := ⟨_, rfl⟩
      have hzd : z.data.toList = l := by rw [← hz]
      have hzs : z.size = l.length := by rw [Lib.size_eq, hzd]
      rw [hz] at hc1
      have hadd1 : ∀ wx : World, (Op.stringOp .add t z).run Tryd.prog wx = .ok (.string (t ++ z)) wx := fun wx => run_string_add_sum wx _ _ (by omega)
      obtain ⟨t1, ht1⟩ : ∃ t1, t ++ z = t1 := ⟨_, rfl⟩
      have ht1s : t1.size = t.size + z.size := by rw [← ht1, ByteArray.size_append]
      rw [ht1] at hadd1
      have hadd2 : ∀ wx : World, (Op.stringOp .add t1 ⟨#[10]⟩).run Tryd.prog wx = .ok (.string (t1 ++ ⟨#[10]⟩)) wx := fun wx => run_string_add_sum wx _ _ (by show t1.size + 1 ≤ _; omega)
      obtain ⟨t2, ht2⟩ : ∃ t2, t1 ++ (⟨#[10]⟩ : ByteArray) = t2 := ⟨_, rfl⟩
      rw [ht2] at hadd2
      have HT2 := Lib.hid (show t2.data.toList = txT (ls.take (k + 1)) by
        rw [HST.out, ← HT.out, ← ht2, ByteArray.data_append, Array.toList_append, ← ht1, ByteArray.data_append, Array.toList_append, hzd, List.append_assoc])
      clear hk hlk hb hcell hle hL hts hz hzd hzs ht1 ht1s ht2
      go_wp2_with fail
      go_roundw
      case rel => exact ⟨k + 1, t2, rfl, by first | rw [WK.out] | simp, Lib.hid HKL.out, HT2, HB⟩
      case measure => first | exact sc_meas' ls.length k HKL.out | (rw [WK.out]; exact sc_meas ls.length k HKL.out)
    · have h9 : k = ls.length := by have := HK.out; omega
      subst h9
      have hkk : ¬ (ls.length : Int) < (ls.length : Int) := by omega
      have HT2 := Lib.hid (show t.data.toList = txT ls by have h := HT.out; rwa [List.take_length] at h)
      go_wp2_with fail
      go_ret
      exact ⟨⟨t, HT2.out, rfl⟩, HB.out⟩
end Go.Proofs.YtoejflnlkapkiaaDoor
/- Reference 42's words. -/
namespace Go.Proofs.YtoejflnlkapkiaaDoor
open Go.ChangeShapes Go.WideShapes Go.ChangeAt Go.RowKit
set_option linter.unusedVariables false
set_option linter.unusedSimpArgs false
def wst (a c : Nat) : Nat := (10 * a + c + 18446744073709551568) % 18446744073709551616
theorem wst_lt (a c : Nat) : wst a c < 18446744073709551616 := Nat.mod_lt _ (by omega)
theorem wst_dig (a c : Nat) (h1 : 48 ≤ c) : wst a c = (a * 10 + (c - 48)) % 18446744073709551616 := by unfold wst; omega
theorem wst_eq (a c : Nat) : wst a c = (10 * a + c + 18446744073709551568) % 18446744073709551616 := rfl
attribute [irreducible] wst
def wv (acc : Nat) : List UInt8 → Nat
  | [] => acc
  | c :: r => wv (wst acc c.toNat) r
theorem fv_mod (M : Nat) : ∀ (l : List UInt8) (a : Nat), fv (a % M) l % M = fv a l % M
  | [], a => Nat.mod_mod _ _
  | c :: r, a => by
    show fv (a % M * 10 + (c.toNat - 48)) r % M = fv (a * 10 + (c.toNat - 48)) r % M
    rw [← fv_mod M r (a % M * 10 + (c.toNat - 48)), ← fv_mod M r (a * 10 + (c.toNat - 48))]
    congr 2
    rw [Nat.add_mod, Nat.mul_mod, Nat.mod_mod, ← Nat.mul_mod, ← Nat.add_mod]
theorem wv_fv : ∀ (l : List UInt8) (acc : Nat), acc < 18446744073709551616 → (∀ c ∈ l, digB c) → wv acc l = fv acc l % 18446744073709551616
  | [], acc, h, _ => (Nat.mod_eq_of_lt h).symm
  | c :: r, acc, h, hd => by
    obtain ⟨h1, h2⟩ := hd c (List.mem_cons_self ..)
    unfold wv
    rw [wv_fv r _ (wst_lt _ _) (fun x hx => hd x (List.mem_cons_of_mem _ hx)), wst_dig _ _ h1]
    exact fv_mod _ r _
theorem wv_dec {n : Nat} (h : n < 18446744073709551616) : wv 0 (Lib.decDigits n) = n := by
  rw [wv_fv _ _ (by omega) (dec_digs n), fv_dec, Nat.mod_eq_of_lt h]
theorem wv_lt : ∀ (l : List UInt8) (acc : Nat), acc < 18446744073709551616 → wv acc l < 18446744073709551616
  | [], _, h => by unfold wv; exact h
  | c :: r, _, _ => by simp only [wv]; exact wv_lt r _ (wst_lt _ _)
theorem wv_snoc : ∀ (l : List UInt8) (acc : Nat) (c : UInt8), wv acc (l ++ [c]) = wst (wv acc l) c.toNat
  | [], _, _ => by simp only [List.nil_append, wv]
  | x :: r, acc, c => by
    simp only [List.cons_append, wv]
    exact wv_snoc r _ c
/-- The number of 64 bits that a word is, or none. -/
def udW (x : List UInt8) : Option Nat := if Lib.decDigits (wv 0 x) = x then some (wv 0 x) else none
theorem udW_dec {n : Nat} (h : n < 18446744073709551616) : udW (Lib.decDigits n) = some n := by
  unfold udW; rw [wv_dec h, if_pos rfl]
theorem udW_eq {x : List UInt8} {n : Nat} (h : udW x = some n) : Lib.decDigits n = x ∧ n < 18446744073709551616 := by
  unfold udW at h
  split at h
  · next e => obtain rfl := Option.some.inj h; exact ⟨e, wv_lt x 0 (by omega)⟩
  · cases h
def udsW : List (List UInt8) → Option (List Int)
  | [] => some []
  | x :: r => match udW x, udsW r with
    | some n, some l => some ((n : Int) :: l)
    | _, _ => none
theorem udsW_none : ∀ {ws : List (List UInt8)} {k : Nat} {x : List UInt8}, ws[k]? = some x → udW x = none → udsW ws = none
  | y :: r, 0, x, h, hn => by
    have e : y = x := by simpa using h
    unfold udsW; rw [e, hn]
  | y :: r, k + 1, x, h, hn => by
    have h1 := udsW_none (ws := r) (k := k) (by simpa using h) hn
    unfold udsW; rw [h1]
    cases udW y <;> rfl
theorem udsW_snoc : ∀ {ws : List (List UInt8)} {vs : List Int} {x : List UInt8} {n : Nat}, udsW ws = some vs → udW x = some n → udsW (ws ++ [x]) = some (vs ++ [(n : Int)])
  | [], vs, x, n, h, hx => by
    obtain rfl := Option.some.inj h
    show udsW [x] = _
    unfold udsW; rw [hx]; rfl
  | y :: r, vs, x, n, h, hx => by
    unfold udsW at h
    cases hy : udW y with
    | none => rw [hy] at h; cases h
    | some m =>
      cases hr : udsW r with
      | none => rw [hy, hr] at h; cases h
      | some l =>
        rw [hy, hr] at h
        obtain rfl := Option.some.inj h
        show udsW (y :: (r ++ [x])) = _
        unfold udsW
        rw [hy, udsW_snoc hr hx]
        rfl
theorem udsW_take {ws : List (List UInt8)} {k : Nat} {x : List UInt8} {vs : List Int} {n : Nat} (h : udsW (ws.take k) = some vs) (hk : ws[k]? = some x) (hx : udW x = some n) : udsW (ws.take (k + 1)) = some (vs ++ [(n : Int)]) := by
  rw [List.take_add_one, hk]; exact udsW_snoc h hx
theorem udsW_len : ∀ {ws : List (List UInt8)} {vs : List Int}, udsW ws = some vs → vs.length = ws.length
  | [], vs, h => by obtain rfl := Option.some.inj h; rfl
  | y :: r, vs, h => by
    unfold udsW at h
    cases hy : udW y with
    | none => rw [hy] at h; cases h
    | some m =>
      cases hr : udsW r with
      | none => rw [hy, hr] at h; cases h
      | some l =>
        rw [hy, hr] at h
        obtain rfl := Option.some.inj h
        have := udsW_len hr
        simp [this]
end Go.Proofs.YtoejflnlkapkiaaDoor
