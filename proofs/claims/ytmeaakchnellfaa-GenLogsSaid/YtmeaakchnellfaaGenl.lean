/- Package gen: Logs; reference 9's Powers. -/
import Derived.Test.YtmeaakchnellfaaGenr
import Derived.Test.YtmeaakchnellfaaPerm
namespace Go.Proofs.Ytmeaakchnellfaa
open Go.ChangeShapes Go.WideShapes Go.ChangeAt Go.RowKit
set_option linter.unusedVariables false
theorem cnt_exg {ps : List Int} {v : Int} : ∀ {k : Nat}, cnt ps v k ≠ 0 → ∃ j, j < k ∧ ps.getD j 0 = v
  | k + 1, h => by
    by_cases e : ps.getD k 0 = v
    · exact ⟨k, by omega, e⟩
    · rw [cnt, if_neg e] at h
      obtain ⟨j, hj, e2⟩ := cnt_exg h
      exact ⟨j, by omega, e2⟩
theorem inv_backg {ps : List Int} {n k : Nat} (hg : rgt ps n n = true) (hk : k < n) : invl ps (ps.getD k 0) n = k :=
  invl_at rfl n hk (fun j h1 h2 e => rgt_apart hg k j h1 h2 e.symm)
theorem inv_exg {ps : List Int} {n v : Nat} (hg : rgt ps n n = true) (hv : v < n) : ∃ k, k < n ∧ ps.getD k 0 = v ∧ invl ps v n = k := by
  obtain ⟨k, hk, e⟩ := cnt_exg (ps := ps) (v := (v : Int)) (k := n) (by rw [(rgt_cnt ps n).1 hg v hv]; omega)
  exact ⟨k, hk, e, by rw [← e]; exact inv_backg hg hk⟩
theorem inverl_atg (ps : List Int) (n v : Nat) (hv : v < n) : (inverl ps n).getD v 0 = ((invl ps v n : Nat) : Int) := tab_at n (fun v => ((invl ps v n : Nat) : Int)) v hv
theorem pow_pos {q g : Nat} (hq : isP q) (h1 : 1 ≤ g) (h2 : g < q) : ∀ i, 1 ≤ g ^ i % q ∧ ¬ q ∣ g ^ i
  | 0 => by
    have := hq.1
    rw [Nat.pow_zero, Nat.mod_eq_of_lt (by omega)]
    exact ⟨by omega, fun hd => by have := Nat.le_of_dvd (by omega) hd; omega⟩
  | i + 1 => by
    have ih := (pow_pos hq h1 h2 i).2
    have hn : ¬ q ∣ g ^ (i + 1) := by
      intro hd
      rw [Nat.pow_succ] at hd
      rcases hq.dvd_mul hd with h | h
      · exact ih h
      · have := Nat.le_of_dvd h1 h; omega
    refine ⟨?_, hn⟩
    rcases Nat.eq_zero_or_pos (g ^ (i + 1) % q) with z | z
    · exact absurd (Nat.dvd_of_mod_eq_zero z) hn
    · exact z
theorem pow_same {q g : Nat} (hq : isP q) (h : IsMk q g) {x y : Nat} (hxy : x ≤ y) (he : g ^ x % q = g ^ y % q) : q - 1 ∣ y - x := by
  have q0 := hq.1
  obtain ⟨d, rfl⟩ : ∃ d, y = x + d := ⟨y - x, by omega⟩
  rw [Nat.add_sub_cancel_left]
  refine h.ord.dvd q0 ?_
  have hp := (pow_pos hq h.one h.lt x).2
  have hge : g ^ x ≤ g ^ (x + d) := Nat.pow_le_pow_right h.one (by omega)
  have hd : q ∣ g ^ (x + d) - g ^ x := mod_dvd hge he
  have h1 : 1 ≤ g ^ d := Nat.pow_pos h.one
  rw [Nat.pow_add, show g ^ x * g ^ d - g ^ x = g ^ x * (g ^ d - 1) by rw [Nat.mul_sub, Nat.mul_one]] at hd
  rcases hq.dvd_mul hd with c | c
  · exact absurd c hp
  · obtain ⟨k, hk⟩ := c
    rw [show g ^ d = 1 + q * k by omega, Nat.add_mul_mod_self_left, Nat.mod_eq_of_lt (by omega)]
/-- The powers, less 1. -/
def pm1 (q g : Nat) : List Int := tab (q - 1) fun i => ((g ^ i % q - 1 : Nat) : Int)
theorem pm1_at (q g k : Nat) (h : k < q - 1) : (pm1 q g).getD k 0 = ((g ^ k % q - 1 : Nat) : Int) := tab_at (q - 1) (fun i => ((g ^ i % q - 1 : Nat) : Int)) k h
theorem pm1_right {q g : Nat} (hq : isP q) (h : IsMk q g) : rgt (pm1 q g) (q - 1) (q - 1) = true := by
  have q0 := hq.1
  apply rgt_of
  · intro j hj
    rw [pm1_at q g j hj]
    have := Nat.mod_lt (g ^ j) (show 0 < q by omega)
    have := (pow_pos hq h.one h.lt j).1
    omega
  · intro i j hij hj e
    rw [pm1_at q g j hj, pm1_at q g i (by omega)] at e
    have a := (pow_pos hq h.one h.lt i).1
    have b := (pow_pos hq h.one h.lt j).1
    have := Nat.le_of_dvd (by omega) (pow_same hq h (Nat.le_of_lt hij) (by omega))
    omega
theorem log_at {q g : Nat} (hq : isP q) (h : IsMk q g) {i : Nat} (hi : i < q - 1) : (inverl (pm1 q g) (q - 1)).getD (g ^ i % q - 1) 0 = (i : Int) := by
  have q0 := hq.1
  have := Nat.mod_lt (g ^ i) (show 0 < q by omega)
  have := (pow_pos hq h.one h.lt i).1
  rw [inverl_atg _ _ _ (by omega)]
  have := inv_backg (pm1_right hq h) hi
  rw [pm1_at q g i hi] at this
  rw [this]
theorem log_ex {q g : Nat} (hq : isP q) (h : IsMk q g) {a : Nat} (h1 : 1 ≤ a) (h2 : a < q) : ∃ k, k < q - 1 ∧ g ^ k % q = a ∧ (inverl (pm1 q g) (q - 1)).getD (a - 1) 0 = (k : Int) := by
  obtain ⟨k, hk, e1, e2⟩ := inv_exg (v := a - 1) (pm1_right hq h) (by omega)
  rw [pm1_at q g k hk] at e1
  have := (pow_pos hq h.one h.lt k).1
  exact ⟨k, hk, by omega, by rw [inverl_atg _ _ _ (by omega), e2]⟩
set_option maxRecDepth 100000 in
theorem gen_logs (q : Nat) (W : World) (hq : isP q) (hq2 : q ≤ 131072) :
    Calls Try.prog 28 #[.int .i64 (q : Int)] W fun e w' => ∃ g, IsMk q g ∧ GivesIOk W (q - 1) (inverl (pm1 q g) (q - 1)) e w' := by
  have q0 := hq.1
  have GG := Lib.hid (fun w => gen_powers q w hq hq2)
  obtain ⟨n, hn⟩ : ∃ n, q - 1 = n := ⟨_, rfl⟩
  have hni : (q : Int) - 1 = (n : Int) := by omega
  have hmk := make_i64 n (by omega)
  go_enter Try.func28, Try.ntmps28
  go_wp2_with fail
  refine (GG.out _).mono ?_
  rintro e w1 ⟨g, hg, p1, k1, rfl, hr, b1⟩
  have HG := Lib.hid hg
  have PP := Lib.hid (fun i => (show 1 ≤ g ^ i % q ∧ g ^ i % q < q from ⟨(pow_pos hq hg.one hg.lt i).1, Nat.mod_lt _ (by omega)⟩))
  have GA := Lib.hid (fun k (hk : k < n) => gpl_at q g k (by omega))
  have PA := Lib.hid (fun k (hk : k < n) => pm1_at q g k (by omega))
  have IP := Lib.hid (fun k x h => inv_put (pm1 q g) n k x h)
  have IW := Lib.hid (inverl_wf (pm1 q g) n (by omega))
  have QF := Lib.hid (fun e w' (h : GivesIOk W n (inverl (pm1 q g) n) e w') => (show ∃ g, IsMk q g ∧ GivesIOk W (q - 1) (inverl (pm1 q g) (q - 1)) e w' from ⟨g, HG.out, by rw [hn]; exact h⟩))
  rw [hn] at hr ⊢
  have R0 := RowAtI.made w1 3 n
  rw [tab_rep] at R0
  have R0 := Lib.hid R0
  have HX := Lib.hid hr
  have HBW := Lib.hid b1
  have hB0 := (Below.refl w1.heap.size w1).alloc (Nat.le_refl _) (.cells (Array.replicate n (.int .i64 0)) 3)
  clear hg b1 hr
  generalize pm1 q g = ps at *
  generalize gpl q g = gs at *
  go_wp2_with fail
  obtain ⟨wo, rfl⟩ : ∃ wo : World, wo = w1 := ⟨_, rfl⟩
  generalize wo.alloc (.cells (Array.replicate n (.int .i64 0)) 3) = w3 at *
  go_loopw [22] (fun i wr => ∃ k : Nat, k ≤ n ∧ i = .int .i64 k ∧ Hid (RowAtI wr wo.heap.size 3 (tab n fun v => ((invl ps v k : Nat) : Int))) ∧ Below wo.heap.size wo wr) (fun i _ => n - (intOf i).toNat)
  case atStart => exact ⟨0, Nat.zero_le _, rfl, R0, hB0⟩
  case round =>
    clear R0 hB0
    obtain ⟨k, hk, rfl, RB, hB⟩ := hrel
    have hsz := RB.out.lt
    by_cases hlt : k < n
    · obtain ⟨b, off, rfl, hb, hc0, x0, x1⟩ := HX.out.cell hlt
      have hc : wr.cell? ⟨b, off + k, none⟩ = some (.int .i64 (gs.getD k 0)) := (hB.cell (p := ⟨b, off + k, none⟩) hb).trans hc0
      have GA1 := GA.out k hlt
      have PA1 := PA.out k hlt
      obtain ⟨p0, p1⟩ := PP.out k
      have IP1 := Lib.hid (fun x h => IP.out k x h)
      clear hc0
      generalize g ^ k % q = y at *
      rw [GA1] at hc x0 x1
      obtain ⟨v, hv⟩ : ∃ v, y - 1 = v := ⟨_, rfl⟩
      rw [hv] at PA1
      have hvi : (y : Int) - 1 = (v : Int) := by omega
      have hvn : v < n := by omega
      have cb := RB.out.cell (k := v) (by rw [tab_len]; exact hvn)
      have fb := RB.out.free v
      have rb2 := RB.out.set v k
      rw [IP1.out v PA1] at rb2
      have RB2 := Lib.hid rb2
      have hv0 : (0 : Int) ≤ (v : Int) := by omega
      have hv1 : (v : Int) < (n : Int) := by omega
      clear IP1 rb2 PA1 GA1
      generalize (tab n fun v => ((invl ps v k : Nat) : Int)).getD v 0 = u at *
      go_wp2_with fail
      go_roundw
      case rel => exact ⟨k + 1, by omega, by go_num, RB2, hB.setCell (Nat.le_refl _) _⟩
      case measure => (first | (simp [intOf]; done) | (simp [intOf]; omega) | (simp only [intOf]; omega))
    · obtain rfl : k = n := by omega
      go_wp2_with fail
      go_ret2
      exact QF.out _ _ ⟨_, _, rfl, RowI.of_at RB.out IW.out (tab_len _ _) (by omega), HBW.out.trans (hB.mono HBW.out.size)⟩
theorem gen_logsno (n : Int) (W : World) (h : qrb n = false) :
    Calls Try.prog 28 #[.int .i64 n] W fun e w' => e = .returned (.tuple #[.slice none 0 0, .int .i64 2]) ∧ Below W.heap.size W w' := by
  have GG := Lib.hid (fun w => gen_powersno n w h)
  go_enter Try.func28, Try.ntmps28
  go_wp2_with fail
  refine (GG.out _).mono ?_
  rintro e w1 ⟨rfl, b1⟩
  go_wp2_with fail
  go_ret2
  exact ⟨rfl, b1⟩
set_option maxRecDepth 100000 in
theorem r9_powers (q : Nat) (W : World) (hq : isP q) (hq2 : q ≤ 131072) :
    Calls Try.prog 32 #[.int .i64 (q : Int)] W fun e w' => ∃ g, IsMk q g ∧ GivesI W (q - 1) (gpl q g) e w' := by
  have q0 := hq.1
  have GG := Lib.hid (fun w => r9_gen q w hq hq2)
  obtain ⟨n, hn⟩ : ∃ n, q - 1 = n := ⟨_, rfl⟩
  have hni : (q : Int) - 1 = (n : Int) := by omega
  have q1 : ((q : Int) == 0) = false := by simp; omega
  have q2 : ¬ ((q : Int) = 0) := by omega
  have q3 : ¬ (q = 0) := by omega
  go_enter Try.func32, Try.ntmps32
  go_wp2_with fail
  refine (GG.out _).mono ?_
  rintro e w1 ⟨g, rfl, hg, rfl⟩
  have hgq := hg.lt
  have HG := Lib.hid hg
  have YL := Lib.hid (show (gpl q g).length = n by rw [gpl_len, hn])
  have YA := Lib.hid (fun k (hk : k < n) => gpl_at q g k (by omega))
  have YW := Lib.hid (gpl_wf g (by omega) hq2)
  have QF := Lib.hid (fun e w' (h : GivesI W n (gpl q g) e w') => (show ∃ g, IsMk q g ∧ GivesI W (q - 1) (gpl q g) e w' from ⟨g, HG.out, by rw [hn]; exact h⟩))
  have P0 := Lib.hid (show g ^ 0 % q = 1 by rw [Nat.pow_zero]; exact Nat.mod_eq_of_lt (by omega))
  have PS := Lib.hid (fun k p (h : g ^ k % q = p) => (show g ^ (k + 1) % q = p * g % q by rw [Nat.pow_succ, Nat.mul_mod, h, Nat.mod_eq_of_lt hgq]))
  clear hg
  generalize gpl q g = ys at *
  go_wp2_with fail
  obtain ⟨wo, rfl⟩ : ∃ wo : World, wo = W := ⟨_, rfl⟩
  go_loopw [3, 5, 6] (fun v x i wr => ∃ k p : Nat, k ≤ n ∧ i = .int .i64 k ∧ x = .int .i64 p ∧ p < q ∧ Hid (g ^ k % q = p) ∧ Hid (Owns wr wo.heap.size 3 .i64 v (upto ys k)) ∧ Below wo.heap.size wo wr) (fun _ _ i _ => n - (intOf i).toNat)
  case atStart => exact ⟨0, 1, Nat.zero_le _, rfl, rfl, by omega, P0, Lib.hid (Owns.nil _ _ _ _), Below.refl _ _⟩
  case round =>
    obtain ⟨k, p, hk, rfl, rfl, hp, HP, HO, hB⟩ := hrel
    by_cases hlt : k < n
    · have YA1 := YA.out k hlt
      rw [HP.out] at YA1
      have HPS := Lib.hid (upto_snoc ys k _ (by rw [YL.out]; omega) YA1)
      have HK := Lib.hid (upto_len ys k (by rw [YL.out]; omega))
      have hpg : p * g ≤ 131072 * 131072 := Nat.mul_le_mul (by omega) (by omega)
      have PS1 := Lib.hid (PS.out k p HP.out)
      obtain ⟨X, hX⟩ : ∃ X, p * g = X := ⟨_, rfl⟩
      rw [hX] at PS1
      have w1' : IntKind.i64.wrap ((p : Int) * (g : Int)) = (X : Int) := by
        rw [(Int.natCast_mul p g).symm, hX]; exact IntWalk.i64_in _ (by omega)
      have m1 := natmod X q
      have m1' := natmod' X q
      have hX1 : X % q < q := Nat.mod_lt _ (by omega)
      generalize X % q = x at *
      have dd : decide ((k : Int) < (n : Int)) = true := decide_eq_true (by omega)
      clear hX YA1
      go_wp2_with (at_builtin; refine append_one Try.underlying28 info_i64 rfl _ _ rfl rfl HO.out rfl hB.size (by rw [HK.out]; omega) ?_; intro v' w' hO hb')
      have HO2 := Lib.hid (by have := hO; rw [HPS.out] at this; exact this)
      clear hO
      go_wp2_with fail
      go_roundw
      case rel => exact ⟨k + 1, x, by omega, by go_num, by go_num, hX1, PS1, HO2, hB.trans hb'⟩
      case measure => (first | (simp [intOf]; done) | (simp [intOf]; omega) | (simp only [intOf]; omega))
    · obtain rfl : k = n := by omega
      have dd : decide ((k : Int) < (k : Int)) = false := decide_eq_false (by omega)
      have HO3 := HO.out
      rw [upto_full ys k YL.out] at HO3
      have HO3 := Lib.hid HO3
      go_wp2_with fail
      go_ret
      exact QF.out _ _ (givesI_own rfl HO3.out hB YW.out YL.out (by omega))
end Go.Proofs.Ytmeaakchnellfaa
