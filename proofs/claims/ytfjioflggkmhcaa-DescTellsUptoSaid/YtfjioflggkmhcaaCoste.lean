/- Package cost's Est, rank; the live example of layer 18. -/
import Derived.Test.YtfjioflggkmhcaaCostd
namespace Go.Proofs.Ytfjioflggkmhcaa
open Go.ChangeShapes Go.WideShapes Go.ChangeAt Go.RowKit
set_option linter.unusedVariables false
theorem chkd_ok {k n : Int} {ks : Fo} (h : chkd k n ks = 0) : (Nd.mk k n ks).ok = true ∧ ks.pre.all Nd.ok = true := by
  unfold chkd at h
  split at h
  · cases h
  · split at h
    · rename_i h2
      rw [List.all_cons, Bool.and_eq_true] at h2
      exact h2
    · cases h
/-- The work of a tree, 0 of one that is no plan. -/
def costE (k n : Int) (ks : Fo) : Int := if chkd k n ks = 0 then estN k n ks else 0
theorem ret_two {a b a' b' : Int} (h : a = a') (g : b = b') : Ending.returned (.tuple #[.int .i64 a, .int .i64 b]) = .returned (.tuple #[.int .i64 a', .int .i64 b']) := by rw [h, g]
set_option maxRecDepth 100000 in
theorem cost_top (ks : Fo) (v : Value) (k n : Int) (lim : Nat) (W : World) (hN : ks.cnt ≤ 1048576) (hK : Kids W lim v ks) (hl : lim ≤ W.heap.size) (wn : -9223372036854775808 ≤ n ∧ n ≤ 9223372036854775807) (wf : ks.wf) :
    Calls Try.prog 32 #[.agg #[.int .i64 k, .int .i64 n, v]] W fun e w' => e = .returned (.tuple #[.int .i64 (costE k n ks), .int .i64 (chkd k n ks)]) ∧ Below W.heap.size W w' := by
  have VC := Lib.hid (fun w h1 h2 => valid_check ks v k n lim w hN h1 h2 wn wf)
  obtain ⟨p, m, c, rfl, hc1, hc2, HM⟩ := hK.shape
  obtain ⟨w0, hw0, c0, c1, c2, hB, hsz⟩ := box3 W k n (.slice p m c) 24
  have hK0 := hK.below hl hB
  have x0 : W.heap.size < w0.heap.size := by omega
  by_cases h0 : chkd k n ks = 0
  · have E := Lib.hid (show costE k n ks = estN k n ks from if_pos h0)
    obtain ⟨g1, g2⟩ := chkd_ok h0
    have CE := Lib.hid (fun w h1 h2 => cost_est ks.cnt ks k n (.slice p m c) lim w (Nat.le_refl _) h1 h2 g1 g2)
    rw [h0] at VC ⊢
    generalize estN k n ks = z at *
    generalize costE k n ks = y at *
    clear h0 g1 g2
    go_enter Try.func32, Try.ntmps32
    go_wp2_with fail
    rw [← hw0]
    clear hw0
    refine (VC.out _ hK0 (by omega)).mono ?_
    rintro e w1 ⟨rfl, b1⟩
    have hK1 := hK0.below (by omega) b1
    have k0 := (b1.cell (p := ⟨W.heap.size, 0, none⟩) x0).trans c0
    have k1 := (b1.cell (p := ⟨W.heap.size, 1, none⟩) x0).trans c1
    have k2 := (b1.cell (p := ⟨W.heap.size, 2, none⟩) x0).trans c2
    have hs1 := b1.size
    clear c0 c1 c2
    go_wp2_with fail
    refine (CE.out _ hK1 (by omega)).mono ?_
    rintro e w2 ⟨rfl, b2⟩
    go_wp2_with fail
    go_ret2
    exact ⟨ret_two E.out.symm rfl, hB.trans ((b1.trans (b2.mono hs1)).mono hB.size)⟩
  · have E := Lib.hid (show costE k n ks = 0 from if_neg h0)
    generalize costE k n ks = y at *
    generalize chkd k n ks = x at *
    have d0 : (x != 0) = true := by simp [h0]
    go_enter Try.func32, Try.ntmps32
    go_wp2_with fail
    rw [← hw0]
    clear hw0
    refine (VC.out _ hK0 (by omega)).mono ?_
    rintro e w1 ⟨rfl, b1⟩
    go_wp2_with fail
    go_ret2
    exact ⟨ret_two E.out.symm rfl, hB.trans (b1.mono hB.size)⟩
theorem live_a : costE 1 8 .nil = 64 := by decide +kernel
theorem live_b : costE 3 8 .nil = 24 := by decide +kernel
theorem live_c : chkd 1 8 .nil = 0 := by decide +kernel
theorem live_d : chkd 3 8 .nil = 0 := by decide +kernel
set_option maxRecDepth 100000 in
theorem live18 (w : World) : Calls Try.prog 31 #[] w fun e w' => e = .returned (.bool true) ∧ Below w.heap.size w w' := by
  have CA := Lib.hid (fun W => cost_top .nil (.slice none 0 0) 1 8 0 W (by decide) (Kids.nought _ _) (Nat.zero_le _) (by omega) trivial)
  have CB := Lib.hid (fun W => cost_top .nil (.slice none 0 0) 3 8 0 W (by decide) (Kids.nought _ _) (Nat.zero_le _) (by omega) trivial)
  rw [live_a, live_c] at CA
  rw [live_b, live_d] at CB
  go_enter Try.func31, Try.ntmps31
  go_wp2_with fail
  refine (CA.out _).mono ?_
  rintro e w1 ⟨rfl, b1⟩
  go_wp2_with fail
  refine (CB.out _).mono ?_
  rintro e w2 ⟨rfl, b2⟩
  go_wp2_with fail
  go_ret
  exact ⟨rfl, b1.trans (b2.mono b1.size)⟩
end Go.Proofs.Ytfjioflggkmhcaa
