/- ScriptOwns: the walk of a call of at most 100 numbers. -/
import Derived.Test.YtoejflnlkapkiaaDoorScp
import Derived.Deep.RegionWith
namespace Go.Proofs.YtoejflnlkapkiaaDoor
open Go.ChangeShapes Go.WideShapes Go.ChangeAt Go.RowKit
set_option linter.unusedVariables false
set_option linter.unusedSimpArgs false
def OwnD (W : World) (d : Cl) (e : Ending) (w' : World) : Prop := ∃ q j, e = .returned (d.val (.slice q d.xs.length j)) ∧ Row w' q d.xs.length d.xs ∧ Below W.heap.size W w'
theorem OwnOk.d {W : World} {c d : Cl} {e : Ending} {w' : World} (hd : ownC c = d) (h : OwnOk W c e w') : OwnD W d e w' := by
  subst hd
  obtain ⟨x', rfl, ⟨q, j, rfl, hr⟩, hb⟩ := h
  exact ⟨q, j, rfl, hr, hb⟩
namespace scriptOwns
set_option maxRecDepth 100000 in
set_option maxHeartbeats 8000000 in
theorem main (W : World) (kd n dir : Int) (s : ByteArray) (who ar : Int) (p : Option Addr) (k : Nat) (xs : List Int) (hr : Row W p xs.length xs) (hm : xs.length ≤ 100) (hT : Lib.TabIs Tryd.prog W "internal/strconv.uint64pow10" .u64 Lib.pow10Tab) :
    Calls Tryd.prog 5 #[.agg #[.int .i64 kd, .int .i64 n, .int .i64 dir, .string s, .int .i64 who, .int .i64 ar, .slice p xs.length k]] W fun e W' => e = .returned (.bool true) ∧ Below W.heap.size W W' := by
  have d1 : decide ((100 : Int) < (xs.length : Int)) = false := decide_eq_false (by omega)
  have d1' : decide (100 < xs.length) = false := decide_eq_false (by omega)
  obtain ⟨w0, hw0, r0, hB0, hs0⟩ := boxG W #[.int .i64 kd, .int .i64 n, .int .i64 dir, .string s, .int .i64 who, .int .i64 ar, .slice p xs.length k] 49
  obtain ⟨x0, x1, x2, x3, x4, x5, x6⟩ := cells7 r0
  have HR0 := Lib.hid r0
  have HB0 := Lib.hid hB0
  have HS0 := Lib.hid hs0
  have HX := Lib.hid (show RowX w0 (.slice p xs.length k) xs from ⟨p, k, rfl, hr.below hB0⟩)
  obtain ⟨d, hd⟩ : ∃ d : Cl, ownC ⟨kd, n, dir, s, who, ar, xs⟩ = d := ⟨_, rfl⟩
  have OW := Lib.hid (show Calls Tryd.prog 16 #[.agg #[.int .i64 kd, .int .i64 n, .int .i64 dir, .string s, .int .i64 who, .int .i64 ar, .slice p xs.length k]] w0 (OwnD w0 d) from (sc_own ⟨kd, n, dir, s, who, ar, xs⟩ (.slice p xs.length k) w0 HX.out (by show xs.length ≤ 1000000; omega)).mono (fun e w' h => h.d hd))
  have RO := Lib.hid (fun (w : World) (hb : Below w0.heap.size w0 w) => (show Calls Tryd.prog 18 #[.agg #[.int .i64 kd, .int .i64 n, .int .i64 dir, .string s, .int .i64 who, .int .i64 ar, .slice p xs.length k]] w (OwnD w d) from (r42_own ⟨kd, n, dir, s, who, ar, xs⟩ (.slice p xs.length k) w (HX.out.below hb)).mono (fun e w' h => h.d hd)))
  have HLC : d.xs.length ≤ 1000000 := by
    have h : d.xs.length ≤ xs.length := by
      rw [← hd]; unfold ownC
      repeat' split
      all_goals simp
    omega
  have HID : ownC d = d := by rw [← hd]; exact ownC_idem _
  have OD := Lib.hid (fun (w : World) q j (h : Row w q d.xs.length d.xs) => (show Calls Tryd.prog 16 #[d.val (.slice q d.xs.length j)] w (OwnD w d) from (sc_own d (.slice q d.xs.length j) w ⟨q, j, rfl, h⟩ HLC).mono (fun e w' h => h.d HID)))
  have SM := Lib.hid (fun (w : World) q j q' j' (h : Row w q d.xs.length d.xs) (h' : Row w q' d.xs.length d.xs) => l42_same d (.slice q d.xs.length j) (.slice q' d.xs.length j') w ⟨q, j, rfl, h⟩ ⟨q', j', rfl, h'⟩)
  have LV := Lib.hid (fun (w : World) (hb : Below w0.heap.size w0 w) => live42 w (pow10_bel (pow10_bel hT hB0) hb))
  clear hr hm hT r0 hB0 hs0 hd HLC HID
  obtain ⟨dk, dn, dd, ds, dw, da, dx⟩ := d
  simp only [Cl.val] at OW OD SM
  go_enter Tryd.func5, Tryd.ntmps5
  go_wp2_with fail
  refine OW.out.mono ?_
  rintro e w1 ⟨q1, j1, rfl, ho, hb1⟩
  simp only [Cl.val]
  obtain ⟨w2, hw2, r2, hB2, hs2⟩ := boxG w1 #[.int .i64 dk, .int .i64 dn, .int .i64 dd, .string ds, .int .i64 dw, .int .i64 da, .slice q1 dx.length j1] 49
  have HO2 := Lib.hid (show Row w2 q1 dx.length dx from ho.below hB2)
  have HZ := Lib.hid (show W.heap.size < w1.heap.size by have := hb1.size; have := HS0.out; omega)
  have HB2 := Lib.hid (show Below w0.heap.size w0 w2 from hb1.trans (hB2.mono hb1.size))
  have R02' := Lib.hid ((HB2.out.block _ (by have := HS0.out; omega)).trans HR0.out)
  have R2 := Lib.hid r2
  have HS2 := Lib.hid hs2
  obtain ⟨b, hb⟩ : ∃ b, w1.heap.size = b := ⟨_, rfl⟩
  rw [hb] at R2 HS2 HZ
  obtain ⟨y0, y1, y2, y3, y4, y5, y6⟩ := cells7 R2.out
  obtain ⟨z0, z1, z2, z3, z4, z5, z6⟩ := cells7 R02'.out
  clear ho hb1 r2 hB2 hs2 x0 x1 x2 x3 x4 x5 x6
  go_wp2_with fail
  try rw [hb] at *
  have YF := Lib.hid (fun (u : World) (hu : Below w2.heap.size w2 u) => cells7 ((hu.block _ (by have := HS2.out; omega)).trans R2.out))
  have RO1 := Lib.hid (fun (u : World) (hu : Below w2.heap.size w2 u) => (show Calls Tryd.prog 18 #[.agg #[.int .i64 kd, .int .i64 n, .int .i64 dir, .string s, .int .i64 who, .int .i64 ar, .slice p xs.length k]] u fun e w' => ∃ q j, e = .returned (.agg #[.int .i64 dk, .int .i64 dn, .int .i64 dd, .string ds, .int .i64 dw, .int .i64 da, .slice q dx.length j]) ∧ Row w' q dx.length dx ∧ Below w2.heap.size w2 w' from
    (RO.out u (HB2.out.trans (hu.mono HB2.out.size))).mono (by rintro e w' ⟨q, j, rfl, h1, h2⟩; exact ⟨q, j, rfl, h1, hu.trans (h2.mono hu.size)⟩)))
  have SM1 := Lib.hid (fun (u : World) (hu : Below w2.heap.size w2 u) q j q' j' (h : Row u q dx.length dx) (h' : Row u q' dx.length dx) => (show Calls Tryd.prog 17 #[.agg #[.int .i64 dk, .int .i64 dn, .int .i64 dd, .string ds, .int .i64 dw, .int .i64 da, .slice q dx.length j], .agg #[.int .i64 dk, .int .i64 dn, .int .i64 dd, .string ds, .int .i64 dw, .int .i64 da, .slice q' dx.length j']] u fun e w' => e = .returned (.bool true) ∧ Below w2.heap.size w2 w' from
    (SM.out u q j q' j' h h').mono (by rintro e w' ⟨rfl, h2⟩; exact ⟨rfl, hu.trans (h2.mono hu.size)⟩)))
  have OD1 := Lib.hid (fun (u : World) (hu : Below w2.heap.size w2 u) q j (h : Row u q dx.length dx) => (show Calls Tryd.prog 16 #[.agg #[.int .i64 dk, .int .i64 dn, .int .i64 dd, .string ds, .int .i64 dw, .int .i64 da, .slice q dx.length j]] u fun e w' => ∃ q j, e = .returned (.agg #[.int .i64 dk, .int .i64 dn, .int .i64 dd, .string ds, .int .i64 dw, .int .i64 da, .slice q dx.length j]) ∧ Row w' q dx.length dx ∧ Below w2.heap.size w2 w' from
    (OD.out u q j h).mono (by rintro e w' ⟨q, j, rfl, h1, h2⟩; exact ⟨q, j, rfl, h1, hu.trans (h2.mono hu.size)⟩)))
  have LV1 := Lib.hid (fun (u : World) (hu : Below w2.heap.size w2 u) => (show Calls Tryd.prog 8 #[] u fun e w' => e = .returned (.bool true) ∧ Below w2.heap.size w2 w' from
    (LV.out u (HB2.out.trans (hu.mono HB2.out.size))).mono (by rintro e w' ⟨rfl, h2⟩; exact ⟨rfl, hu.trans (h2.mono hu.size)⟩)))
  have HRO := Lib.hid (fun (u : World) (hu : Below w2.heap.size w2 u) => HO2.out.below hu)
  have FIN := Lib.hid (fun (u : World) (hu : Below w2.heap.size w2 u) => HB0.out.trans ((HB2.out.trans (hu.mono HB2.out.size)).mono HB0.out.size))
  clear RO SM OD LV HX HO2 HR0 R02' R2 HS2 HZ HB2 HB0 HS0
  go_region_with (first
    | (go_at_call 18; with_reducible refine (RO1.out w2.drew ((Below.refl _ _).drew)).mono ?_; rintro e w3 ⟨q3, j3, rfl, hr3, hb3⟩; obtain ⟨a0, a1, a2, a3, a4, a5, a6⟩ := YF.out w3 hb3; have S1 := SM1.out w3 hb3 q1 j1 q3 j3 (HRO.out w3 hb3) hr3; clear hr3 hb3)
    | (go_at_call 17; with_reducible refine S1.mono ?_; rintro e w4 ⟨rfl, hb4⟩; obtain ⟨b0, b1, b2, b3, b4, b5, b6⟩ := YF.out w4 hb4; have O1 := OD1.out w4 hb4 q1 j1 (HRO.out w4 hb4); clear hb4 S1)
    | (go_at_call 16; with_reducible refine O1.mono ?_; rintro e w5 ⟨q5, j5, rfl, hr5, hb5⟩; obtain ⟨c0, c1, c2, c3, c4, c5, c6⟩ := YF.out w5 hb5; have S2 := SM1.out w5 hb5 q5 j5 q1 j1 hr5 (HRO.out w5 hb5); clear hr5 hb5 O1)
    | (go_at_call 17; with_reducible refine S2.mono ?_; rintro e w6 ⟨rfl, hb6⟩; have L1 := LV1.out w6 hb6; clear hb6 S2)
    | (go_at_call 8; with_reducible refine L1.mono ?_; rintro e w7 ⟨rfl, hb7⟩; have FI := Lib.hid (FIN.out w7 hb7); clear hb7 L1))
  all_goals
    go_wp2_with fail
    go_ret
    exact ⟨rfl, FI.out⟩
end scriptOwns
end Go.Proofs.YtoejflnlkapkiaaDoor
