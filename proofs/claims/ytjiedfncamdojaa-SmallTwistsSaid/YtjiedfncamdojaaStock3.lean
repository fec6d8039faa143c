/- Package stock: a pass. -/
import Derived.Test.YtjiedfncamdojaaStock2
namespace Go.Proofs.Ytjiedfncamdojaa
open Go.ChangeShapes Go.WideShapes Go.ChangeAt Go.RowKit
set_option linter.unusedVariables false
abbrev stF (X Lb Wb : Nat) : Value := .func (.func 89) #[] #[.pointer (some ⟨X, 0, none⟩), .pointer (some ⟨Lb, 0, none⟩), .pointer (some ⟨Wb, 0, none⟩)]
def Ran (W : World) (X Lb Wb BL n : Nat) (ax aw : Option Addr) (cx cw cl : Nat) (xs ws zs : List Int) (e : Ending) (W' : World) : Prop := e = .returned (.tuple #[]) ∧ St W' X Lb Wb BL n ax aw cx cw cl xs ws zs ∧ But W W' BL
theorem but_drewN (W : World) (q B : Nat) : But W (W.drewN q) B := But.of_below B (below_drewN (Below.refl _ _) q)
set_option maxRecDepth 100000 in
set_option maxHeartbeats 4000000 in
theorem pass_run (X Lb Wb BL s h n : Nat) (ax aw : Option Addr) (cx cw cl : Nat) (xs ws zs : List Int) (W : World) (hn : 2 * s * h = n) (hs : 0 < s) (hh : 0 < h) (hsm : n ≤ 16777216) (hS : St W X Lb Wb BL n ax aw cx cw cl xs ws zs) :
    Calls Try.prog 90 #[.agg #[.int .i64 n, .int .i64 s, stF X Lb Wb]] W (Ran W X Lb Wb BL n ax aw cx cw cl xs ws (passl xs ws s n)) := by
  have hle : s ≤ n := by rw [← hn, Nat.mul_comm 2 s, Nat.mul_assoc]; exact Nat.le_mul_of_pos_right s (by omega)
  have hhl : h ≤ n := by rw [← hn]; exact Nat.le_mul_of_pos_left h (by omega)
  have hdiv : n / 2 / s = h := by rw [← hn, half_n, Nat.mul_div_cancel_left h hs]
  have BZ := hS.rl.lt
  have hW0 : (W.alloc (.cells #[.int .i64 n, .int .i64 s, stF X Lb Wb] 80)).heap[W.heap.size]? = some (.cells #[.int .i64 n, .int .i64 s, stF X Lb Wb] 80 (0, 0)) := heap_alloc_new _ _
  have p0 : (W.alloc (.cells #[.int .i64 n, .int .i64 s, stF X Lb Wb] 80)).cell? ⟨W.heap.size, 0, none⟩ = some (.int .i64 n) := by rw [cell_of_row _ _ 0 _ _ _ hW0]; rfl
  have p1 : (W.alloc (.cells #[.int .i64 n, .int .i64 s, stF X Lb Wb] 80)).cell? ⟨W.heap.size, 1, none⟩ = some (.int .i64 s) := by rw [cell_of_row _ _ 1 _ _ _ hW0]; rfl
  have HP := Lib.hid (fun w' (hb : But (W.alloc (.cells #[.int .i64 n, .int .i64 s, stF X Lb Wb] 80)) w' BL) => show w'.cell? ⟨W.heap.size, 2, none⟩ = some (stF X Lb Wb) from (World.cell?_of_block (hb.o W.heap.size (by simp) (by omega))).trans (by rw [cell_of_row _ _ 2 _ _ _ hW0]; rfl))
  have B0 := Lib.hid (But.of_below BL ((Below.refl W.heap.size W).alloc (Nat.le_refl _) (.cells #[.int .i64 n, .int .i64 s, stF X Lb Wb] 80)))
  have S0 := Lib.hid (hS.but B0.out (hS.rl.alloc _) hS.zl)
  have hnz : ((s : Int) == 0) = false := by simp; omega
  have hnz2 : ¬ ((s : Int) = 0) := by omega
  have hnz3 : ¬ (s = 0) := by omega
  have HQ := Lib.hid (show (n : Int) / 2 / (s : Int) = (h : Int) by rw [← hdiv]; rfl)
  have PS := Lib.hid hn
  have HN := Lib.hid hn
  have PZ : W.heap.size < (W.alloc (.cells #[.int .i64 n, .int .i64 s, stF X Lb Wb] 80)).heap.size := by simp
  clear hW0 hS hdiv hn
  go_enter Try.func90, Try.ntmps90
  go_wp2_with fail
  go_quiet (fail)
  go_wp2_with fail
  have HP1 := Lib.hid (fun q w' (hb : But ((W.alloc (.cells #[.int .i64 n, .int .i64 s, stF X Lb Wb] 80)).drewN q) w' BL) => HP.out w' ((but_drewN _ q BL).trans hb))
  have B1 := Lib.hid (fun q => B0.out.trans (but_drewN (W.alloc (.cells #[.int .i64 n, .int .i64 s, stF X Lb Wb] 80)) q BL))
  have S1 := Lib.hid (fun q => S0.out.but (but_drewN (W.alloc (.cells #[.int .i64 n, .int .i64 s, stF X Lb Wb] 80)) q BL) S0.out.rl S0.out.zl)
  clear HP B0 S0 p0 p1
  rw [HQ.out]
  have HP2 := Lib.hid (HP1.out nq)
  have B2 := Lib.hid (B1.out nq)
  have S2 := Lib.hid (S1.out nq)
  clear HP1 B1 S1
  replace PZ : W.heap.size < ((W.alloc (.cells #[.int .i64 n, .int .i64 s, stF X Lb Wb] 80)).drewN nq).heap.size := PZ
  generalize (W.alloc (.cells #[.int .i64 n, .int .i64 s, stF X Lb Wb] 80)).drewN nq = W1 at *
  go_loopw [15, 4, 5, 19] (fun i _ _ _ wr => ∃ (k : Nat) (zs : List Int), k ≤ h ∧ i = .int .i64 k ∧ Hid (St wr X Lb Wb BL n ax aw cx cw cl xs ws zs) ∧ Hid (Upto xs ws zs s n k 0) ∧ Hid (But W1 wr BL)) (fun i _ _ _ _ => h - (intOf i).toNat)
  case atStart => exact ⟨0, zs, Nat.zero_le _, rfl, S2, Lib.hid (upto_start _ _ _ _ _), Lib.hid (But.refl _ _)⟩
  case round =>
    clear S2
    obtain ⟨k, zs, hk, rfl, SS, UU, BB⟩ := hrel
    by_cases hlt : k < h
    · have hd : decide ((k : Int) < (h : Int)) = true := decide_eq_true (by omega)
      go_wp2_with fail
      obtain ⟨wo, rfl⟩ : ∃ wo : World, wo = wr := ⟨_, rfl⟩
      go_loopw [19, 5] (fun i _ wr => ∃ (q : Nat) (zs : List Int), q ≤ s ∧ i = .int .i64 q ∧ Hid (St wr X Lb Wb BL n ax aw cx cw cl xs ws zs) ∧ Hid (Upto xs ws zs s n k q) ∧ Hid (But W1 wr BL)) (fun i _ _ => s - (intOf i).toNat)
      case atStart => exact ⟨0, zs, Nat.zero_le _, rfl, SS, UU, BB⟩
      case round =>
        clear SS UU BB
        obtain ⟨q, zs, hq, rfl, SS, UU, BB⟩ := hrel
        by_cases hlt2 : q < s
        · obtain ⟨f1, f2, f3, f4, f5, f6, f7, f8, f9⟩ := prod_facts s h k q n HN.out hlt hlt2
          have cP := HP2.out wr BB.out
          have hz := SS.out.zl
          have IP := fun w h' => into_pair X Lb Wb BL n ax aw cx cw cl xs ws zs (q + s * k) (q + s * (k + h)) (q + s * 2 * k) (q + s * (2 * k + 1)) (k * s) w f1 f2 f3 f4 f5 (by
            intro e
            have e3 : s * 2 * k = s * (2 * k) := Nat.mul_assoc _ _ _
            rw [e3, Nat.mul_add] at e
            omega) h'
          have U2 := Lib.hid (show Upto xs ws _ s n k (q + 1) by
            have := upto_pair xs ws zs s h k q hlt2 hlt (by rw [hz, HN.out]) (by rw [HN.out]; exact UU.out)
            rw [HN.out] at this
            exact this)
          have c1 : ((q + s * k : Nat) : Int) = (q : Int) + (s : Int) * (k : Int) := by push_cast; rfl
          have c2 : ((q + s * (k + h) : Nat) : Int) = (q : Int) + (s : Int) * ((k : Int) + (h : Int)) := by push_cast; rfl
          have c3 : ((q + s * 2 * k : Nat) : Int) = (q : Int) + (s : Int) * 2 * (k : Int) := by push_cast; rfl
          have c4 : ((q + s * (2 * k + 1) : Nat) : Int) = (q : Int) + (s : Int) * (2 * (k : Int) + 1) := by push_cast; rfl
          have c5 : ((k * s : Nat) : Int) = (k : Int) * (s : Int) := by push_cast; rfl
          rw [c1, c2, c3, c4, c5] at IP
          have IP' := Lib.hid IP
          have m1 : (s : Int) * (k : Int) ≤ 16777216 := by have : ((s * k : Nat) : Int) = (s : Int) * (k : Int) := by push_cast; rfl
                                                           omega
          have m1' : 0 ≤ (s : Int) * (k : Int) := Int.mul_nonneg (by omega) (by omega)
          have m2 : (s : Int) * ((k : Int) + (h : Int)) ≤ 16777216 := by have : ((s * (k + h) : Nat) : Int) = (s : Int) * ((k : Int) + (h : Int)) := by push_cast; rfl
                                                                         omega
          have m2' : 0 ≤ (s : Int) * ((k : Int) + (h : Int)) := Int.mul_nonneg (by omega) (by omega)
          have m3 : (s : Int) * 2 * (k : Int) ≤ 16777216 := by have : ((s * 2 * k : Nat) : Int) = (s : Int) * 2 * (k : Int) := by push_cast; rfl
                                                               omega
          have m3' : 0 ≤ (s : Int) * 2 * (k : Int) := Int.mul_nonneg (by omega) (by omega)
          have m4 : (s : Int) * (2 * (k : Int) + 1) ≤ 16777216 := by have : ((s * (2 * k + 1) : Nat) : Int) = (s : Int) * (2 * (k : Int) + 1) := by push_cast; rfl
                                                                     omega
          have m4' : 0 ≤ (s : Int) * (2 * (k : Int) + 1) := Int.mul_nonneg (by omega) (by omega)
          have m5 : (k : Int) * (s : Int) ≤ 16777216 := by omega
          have m5' : 0 ≤ (k : Int) * (s : Int) := Int.mul_nonneg (by omega) (by omega)
          clear c1 c2 c3 c4 c5 IP hz
          have hd2 : decide ((q : Int) < (s : Int)) = true := decide_eq_true (by omega)
          have PZ2 : W.heap.size < wr.heap.size := Nat.lt_of_lt_of_le PZ BB.out.z
          go_wp2_with fail
          refine (IP'.out _ SS.out).mono ?_
          rintro e w1 ⟨rfl, s1, b1⟩
          have SS2 := Lib.hid s1
          have BB2 := Lib.hid (BB.out.trans b1)
          clear s1 b1 cP IP'
          go_wp2_with fail
          go_roundw
          case rel => exact ⟨q + 1, _, by omega, by go_num, SS2, U2, BB2⟩
          case measure => (first | (simp [intOf]; done) | (simp [intOf]; omega) | (simp only [intOf]; omega))
        · obtain rfl : q = s := by omega
          have hd2 : decide ((q : Int) < (q : Int)) = false := decide_eq_false (by omega)
          have U2 := Lib.hid (upto_next _ _ _ _ _ _ UU.out hs)
          go_wp2_with fail
          go_roundw
          case rel => exact ⟨k + 1, zs, by omega, by go_num, SS, U2, BB⟩
          case measure => (first | (simp [intOf]; done) | (simp [intOf]; omega) | (simp only [intOf]; omega))
    · obtain rfl : k = h := by omega
      have hd : decide ((k : Int) < (k : Int)) = false := decide_eq_false (by omega)
      have E := Lib.hid (show zs = passl xs ws s n by
        have := upto_done xs ws zs s k hs (by rw [SS.out.zl, HN.out]) (by rw [HN.out]; exact UU.out)
        rw [HN.out] at this
        exact this)
      go_wp2_with fail
      go_end0
      exact ⟨rfl, by rw [← E.out]; exact SS.out, B2.out.trans BB.out⟩
end Go.Proofs.Ytjiedfncamdojaa
