/- ChirpTransforms: for every row of words of a size: the product around of what stands ahead and of the kernel is, turned, the transform, in any room that is enough. -/
import Derived.Test.YtkijiljipacfjaaChirp4
import Derived.Test.YtkijiljipacfjaaChirpm
import Derived.Test.YtkijiljipacfjaaConv
import Derived.Test.YtkijiljipacfjaaZeros
import Derived.Test.YtkijiljipacfjaaOwnm
import Derived.Test.YtkijiljipacfjaaLDftBack
namespace Go.Proofs.Ytkijiljipacfjaa
open Go.ChangeShapes Go.WideShapes Go.ChangeAt Go.RowKit
set_option linter.unusedVariables false
namespace chirpTransforms
open dftBack
theorem owns_empty (w : World) : Owns (w.alloc (.cells #[] 35)) w.heap.size 35 .u64 (.slice (some ⟨w.heap.size, 0, none⟩) 0 0) [] :=
  ⟨rfl, .inr ⟨w.heap.size, 0, #[], rfl, Nat.le_refl _, heap_alloc_new _ _, Nat.le_refl _, by unfold maxLen; omega, rfl, rfl⟩⟩
theorem far (W : World) (a0 : Option Addr) (n c0 : Nat) (b : Bool) (k : Int) (hs : n ≤ 9223372036854775807) (h : 40 < n ∨ hasb n = false) :
    Calls Try.prog 10 #[.slice a0 n c0, .bool b, .int .u8 k] W fun e W' => e = .returned (.bool true) ∧ Below W.heap.size W W' := by
  have hB : Below W.heap.size W W := Below.refl _ _
  by_cases h1 : 40 < n
  · have g1 : decide (40 < (n : Int)) = true := decide_eq_true (by omega)
    clear h
    cases b
    all_goals
      go_enter Try.func10, Try.ntmps10
      go_wp2_with fail
      refine (live12 _).mono ?_
      rintro e w2 ⟨rfl, rfl⟩
      go_wp2_with fail
      go_ret
      exact ⟨rfl, hB⟩
  · have g1 : decide (40 < (n : Int)) = false := decide_eq_false (by omega)
    have hh : hasb n = false := by
      rcases h with h | h
      · exact absurd h h1
      · exact h
    have H := fun w => r4_has (n : Int) w (by omega) (by omega)
    rw [hh] at H
    have H := Lib.hid H
    clear h hh
    cases b
    all_goals
      go_enter Try.func10, Try.ntmps10
      go_wp2_with fail
      refine (H.out _).mono ?_
      rintro e w2 ⟨rfl, rfl⟩
      go_wp2_with fail
      refine (live12 _).mono ?_
      rintro e w2 ⟨rfl, rfl⟩
      go_wp2_with fail
      go_ret
      exact ⟨rfl, hB⟩
set_option maxRecDepth 100000 in
set_option maxHeartbeats 1000000 in
theorem main (W : World) (a0 : Option Addr) (n c0 k : Nat) (b : Bool) (d : Int) (xs : List Int) (hx : Row W a0 n xs) (hn : n ≤ 40) (hh : hasb n = true) (hk : k ≤ 255) (hb : (b = false ∧ d = 0) ∨ (b = true ∧ d = 1)) :
    Calls Try.prog 10 #[.slice a0 n c0, .bool b, .int .u8 k] W fun e W' => e = .returned (.bool true) ∧ Below W.heap.size W W' := by
  have hB : Below W.heap.size W W := Below.refl _ _
  obtain ⟨h1, _, _⟩ := hasb_dvd hh
  have hn1 : 1 ≤ n := by omega
  have g1 : decide (40 < (n : Int)) = false := decide_eq_false (by omega)
  have H := fun w => r4_has (n : Int) w (by omega) (by omega)
  rw [hh] at H
  have H := Lib.hid H
  have HM := Lib.hid (fun (m : Nat) w (hm : m ≤ 128) => r4_has (m : Int) w (by omega) (by omega))
  have h128 : hasb ((128 : Nat) : Int) = true := by decide
  have hd : d = 0 ∨ d = 1 := by rcases hb with ⟨_, h⟩ | ⟨_, h⟩ <;> simp [h]
  have hc : chk n d = 0 := by rw [chk_dir _ _ hd, if_neg (by rw [hh]; simp), if_neg (by omega)]
  have FO := Lib.hid (fun w h => chirp_fore a0 n c0 d xs w h hh hd)
  have KE := Lib.hid (fun m w h1 h2 => chirp_kernel n m d w hh hd h1 h2)
  have CY := Lib.hid (fun p q m c e (fs ks : List Int) w h1 h2 h3 => r7_cyclic p q m c e fs ks w h1 h2 h3)
  have AF := Lib.hid (fun p N c (cs : List Int) w h h2 => chirp_aft p N n c d cs w h hh hd h2)
  have DF := Lib.hid (fun w h => r6_dft a0 n c0 d xs w h hc)
  have ALL := Lib.hid (show ∀ m, 2 * n - 1 ≤ m → aftl (rdir n (1 - d)) (cycl (forel (rdir n (1 - d)) xs n ++ List.replicate (m - n) 0) (rowc (rdir n d) n (2 * n - 1) ++ List.replicate (m - (2 * n - 1)) 0)) n = horl (rdir n d) xs n from by
    intro m hm
    have I := inv2_rt n hh
    rcases hd with rfl | rfl
    · exact chirp_all (r := rt n) (s := finv (rt n)) I.rn I.sn (fun k => I.pow k) xs hx.len m (by omega) hm
    · exact chirp_all (r := finv (rt n)) (s := rt n) I.sn I.rn (fun k => I.symm.pow k) xs hx.len m (by omega) hm)
  have FW := Lib.hid (forel_wf (rdir n (1 - d)) xs n)
  have FLn := Lib.hid (forel_len (rdir n (1 - d)) xs n)
  have HX := Lib.hid hx
  have q1 : k % 40 < 40 := Nat.mod_lt _ (by omega)
  have hw0 : IntKind.i64.wrap (k : Int) = (k : Int) := IntWalk.i64_in _ (by omega)
  have hm1 : ((k : Int)).tmod 40 = ((k % 40 : Nat) : Int) := rfl
  have hm2 : ((k : Int)) % 40 = ((k % 40 : Nat) : Int) := rfl
  have hw1 : IntKind.i64.wrap (2 * (n : Int)) = 2 * (n : Int) := IntWalk.i64_in _ (by omega)
  have hw2 : IntKind.i64.wrap (2 * (n : Int) - 1) = ((2 * n - 1 : Nat) : Int) := by rw [IntWalk.i64_in _ (by omega)]; omega
  have hw3 : IntKind.i64.wrap (((2 * n - 1 : Nat) : Int) + ((k % 40 : Nat) : Int)) = ((2 * n - 1 + k % 40 : Nat) : Int) := by rw [IntWalk.i64_in _ (by omega)]; omega
  have hst : 2 * n - 1 ≤ 2 * n - 1 + k % 40 ∧ 2 * n - 1 + k % 40 ≤ 128 := by omega
  have gnn : ((n : Int) != (n : Int)) = false := by simp
  clear hh hx hc hd h1
  generalize rdir n (1 - d) = s at *
  generalize rdir n d = r at *
  generalize 2 * n - 1 + k % 40 = ms at *
  generalize k % 40 = kk at *
  generalize horl r xs n = hs at *
  generalize forel s xs n = fs at *
  have hq2 : 2 * n - 1 ≤ 80 := by omega
  have hqn : n ≤ 2 * n - 1 := by omega
  generalize 2 * n - 1 = q at *
  generalize rowc r n q = ks at *
  rcases hb with ⟨rfl, rfl⟩ | ⟨rfl, rfl⟩
  all_goals
    go_enter Try.func10, Try.ntmps10
    go_wp2_with fail
    refine (H.out _).mono ?_
    rintro e w2 ⟨rfl, rfl⟩
    go_wp2_with fail
    go_loopw [9] (fun v wr => ∃ m : Nat, q ≤ m ∧ m ≤ 128 ∧ v = .int .i64 m ∧ W = wr) (fun v _ => 128 - (intOf v).toNat)
    case atStart => refine ⟨ms, hst.1, hst.2, rfl, ?_⟩; first | rfl | trivial
    case round =>
      obtain ⟨m, m1, m2, rfl, rfl⟩ := hrel
      have HM1 := HM.out m
      cases hm : hasb (m : Int) with
      | false =>
        have hne : m < 128 := by
          by_cases e : m = 128
          · rw [e] at hm; rw [h128] at hm; cases hm
          · omega
        rw [hm] at HM1
        have HM1 := Lib.hid HM1
        clear hm
        go_wp2_with fail
        refine (HM1.out _ m2).mono ?_
        rintro e w2 ⟨rfl, rfl⟩
        go_wp2_with fail
        go_roundw
        case rel => refine ⟨m + 1, by omega, by omega, by go_num, ?_⟩; first | rfl | trivial
        case measure => (first | (simp [intOf]; done) | (simp [intOf]; omega) | (simp only [intOf]; omega))
      | true =>
        have KE1 := Lib.hid (fun w => KE.out m w m1 hm)
        have ALL1 := Lib.hid (ALL.out m m1)
        rw [hm] at HM1
        have HM1 := Lib.hid HM1
        have PL := Lib.hid (show (fs ++ List.replicate (m - n) (0 : Int)).length = m by rw [List.length_append, FLn.out, List.length_replicate]; omega)
        have ZL := Lib.hid (show fs.length + (m - n) ≤ 17592186044415 by rw [FLn.out]; omega)
        have FWZ := Lib.hid (show ∀ z ∈ fs ++ List.replicate (m - n) (0 : Int), (Lit.int .u64 z).wf = true from by
          intro z hz
          rcases List.mem_append.1 hz with h | h
          · exact FW.out z h
          · rw [List.eq_of_mem_replicate h]; decide)
        have hw4 : IntKind.i64.wrap ((m : Int) - (n : Int)) = ((m - n : Nat) : Int) := by rw [IntWalk.i64_in _ (by omega)]; omega
        have gmm : ((m : Int) != (m : Int)) = false := by simp
        clear hm hst
        generalize m - n = zc at *
        generalize ks ++ List.replicate (m - q) 0 = kz at *
        go_wp2_with fail
        refine (HM1.out _ m2).mono ?_
        rintro e w2 ⟨rfl, rfl⟩
        go_wp2_with fail
        refine (FO.out _ HX.out).mono ?_
        rintro e w1 ⟨p1, k1, rfl, h, b1⟩
        have R1 := Lib.hid h; clear h; have HX := Lib.hid (HX.out.below b1); have hB := hB.trans (b1.mono hB.size); clear b1
        go_wp2_with fail
        refine (KE1.out _).mono ?_
        rintro e w1 ⟨p2, k2, rfl, h, b1⟩
        have R2 := Lib.hid h; clear h; have HX := Lib.hid (HX.out.below b1); have R1 := Lib.hid (R1.out.below b1); have hB := hB.trans (b1.mono hB.size); clear b1
        have E0 := Lib.hid (owns_empty w1)
        have R1a := Lib.hid (R1.out.alloc (.cells #[] 35))
        have R2a := Lib.hid (R2.out.alloc (.cells #[] 35))
        have HXa := Lib.hid (HX.out.alloc (.cells #[] 35))
        have hBa := hB.alloc hB.size (.cells #[] 35)
        have hza : w1.heap.size ≤ (w1.alloc (.cells #[] 35)).heap.size := by simp
        go_wp2_with (first | (at_builtin; refine append_many Try.underlying22 info_u64 rfl _ _ rfl rfl E0.out rfl R1a.out.len R1a.out.reads hza (by simp; omega) (by omega) ?_; intro v3 w3 hO3 hb3; obtain ⟨v4, w4, hrun, hO4, hb4⟩ := append_zeros_run (m := zc) 22 (show Owns w3 w1.heap.size 35 .u64 v3 fs from hO3) (Nat.le_trans hza hb3.size) ZL.out) | (at_builtin; refine Lib.wpList_append_run _ rfl _ _ 22 3 rfl _ _ rfl rfl _ _ hrun ?_))
        obtain ⟨a5, c5, rfl, hrd, _, _⟩ := hO4.shape
        have hbb : Below w1.heap.size w1 w4 := ((Below.refl _ _).alloc (Nat.le_refl _) _).trans (hb3.trans hb4)
        have R5 := Lib.hid (show Row w4 a5 m (fs ++ List.replicate zc 0) from ⟨PL.out, hrd, FWZ.out, by omega⟩)
        have R2b := Lib.hid (R2.out.below hbb)
        have HXb := Lib.hid (HX.out.below hbb)
        have hBb := hB.trans (hbb.mono hB.size)
        rw [PL.out]
        clear hO3 hO4 hb3 hb4 hrun hrd hbb R1 R2 HX hB R1a R2a HXa hBa hza E0
        refine (CY.out _ _ _ _ _ _ _ _ R5.out R2b.out (by omega)).mono ?_
        rintro e w5 ⟨p5, k5, rfl, h, b1⟩
        have R6 := Lib.hid h
        have HXc := Lib.hid (HXb.out.below b1)
        have hBc := hBb.trans (b1.mono hBb.size)
        clear h b1 R5 R2b HXb hBb
        go_wp2_with fail
        refine (AF.out _ _ _ _ _ R6.out m1).mono ?_
        rintro e w6 ⟨p6, k6, rfl, h, b1⟩
        rw [ALL1.out] at h
        have R7 := Lib.hid h
        have HXd := Lib.hid (HXc.out.below b1)
        have hBd := hBc.trans (b1.mono hBc.size)
        clear h b1 R6 HXc hBc
        go_wp2_with fail
        refine (DF.out _ HXd.out).mono ?_
        rintro e w7 ⟨p7, k7, rfl, h, b1⟩
        have R8 := Lib.hid h
        have R7b := Lib.hid (R7.out.below b1)
        have hBe := hBd.trans (b1.mono hBd.size)
        clear h b1 R7 HXd hBd
        go_wp2_with fail
        refine (c_same R7b.out R8.out).mono ?_
        rintro e w8 ⟨rfl, b1⟩
        have hBf := hBe.trans (b1.mono hBe.size)
        clear b1 hBe
        go_wp2_with fail
        refine (live12 _).mono ?_
        rintro e w9 ⟨rfl, rfl⟩
        go_wp2_with fail
        go_ret
        exact ⟨rfl, hBf⟩
theorem walk (W : World) (a0 : Option Addr) (n0 c0 : Nat) (w0 : IsRow .u64 W a0 n0 c0) (a1 : Bool) (a2 : Int) (w2 : 0 ≤ a2 ∧ a2 ≤ 255) :
    Calls Try.prog 10 #[.slice a0 n0 c0, .bool a1, .int .u8 a2] W fun e W' => e = .returned (.bool true) ∧ Below W.heap.size W W' := by
  by_cases h : 40 < n0 ∨ hasb n0 = false
  · obtain ⟨_, _, _, hs, _⟩ := w0
    exact far W a0 n0 c0 a1 a2 hs h
  · have hn : n0 ≤ 40 := by
      by_cases e : 40 < n0
      · exact absurd (.inl e) h
      · omega
    have hh : hasb n0 = true := by
      cases e : hasb n0 with
      | true => rfl
      | false => exact absurd (.inr e) h
    obtain ⟨xs, hx⟩ := Row.of_isRow w0 (by omega)
    obtain ⟨k, rfl⟩ : ∃ k : Nat, a2 = k := ⟨a2.toNat, by omega⟩
    cases a1 with
    | false => exact main W a0 n0 c0 k false 0 xs hx hn hh (by omega) (.inl ⟨rfl, rfl⟩)
    | true => exact main W a0 n0 c0 k true 1 xs hx hn hh (by omega) (.inr ⟨rfl, rfl⟩)
end chirpTransforms
end Go.Proofs.Ytkijiljipacfjaa
