/- Put together by program (merge2.py): LStockPasses Stock5 LStockWith Fft Live5 Unit Live6 LDftBack Stock6 Copy Chirp Chirp2. -/
import Derived.Deep.DrawnRows
import Derived.Outline
import Derived.Lib.SlBuf
import Derived.Test.YtbhnlfgccldmaaaGreatZd11
import Derived.Test.YtbhnlfgccldmaaaGreatZd12
import Derived.Test.YtbhnlfgccldmaaaGreatZd14
/- StockPasses: a pass. -/
namespace Go.Proofs.YtbhnlfgccldmaaaGreat
open Go.ChangeShapes Go.WideShapes Go.ChangeAt Go.RowKit
set_option linter.unusedVariables false
namespace stockPasses
theorem rowat4 (w : World) (a b c d : Int) : RowAt (w.alloc (.cells #[.int .u64 a, .int .u64 b, .int .u64 c, .int .u64 d] 62)) w.heap.size 62 [a, b, c, d] := by
  unfold RowAt; rw [heap_alloc_new]; rfl
theorem pass1234 : passl [1, 2, 3, 4] [1, 0, 0, 0] 1 4 = [4, 18446744069414584319, 6, 0] := by decide +kernel
theorem has8 : hasp 8 = true := by decide +kernel
theorem has4 : hasp 4 = true := by decide +kernel
theorem has1 : hasp 1 = true := by decide +kernel
theorem hasp_low {s : Int} (h : s < 1) : hasp s = false := by
  unfold hasp; rw [pwb_no (fun x => by omega), Bool.and_false]
theorem hasp_pw {s : Int} (h : pwb s = false) : hasp s = false := by unfold hasp; rw [h, Bool.and_false]
/-- What is told of a pass. -/
def told (n s m : Int) : Int := if hasp n = false then 4 else if s < 1 then 2 else if n / 2 < s then 2 else if pwb s = false then 2 else if m = n then 0 else 5
theorem told_ok {n m : Nat} {s : Int} (ht : told n s m = 0) : hasp n = true ∧ hasp s = true ∧ m = n ∧ ∃ s' h : Nat, s = s' ∧ 2 * s' * h = n ∧ 0 < s' ∧ 0 < h ∧ n ≤ 16777216 := by
  unfold told at ht
  cases hh : hasp (n : Int)
  · rw [if_pos hh] at ht; omega
  rw [if_neg (by rw [hh]; decide)] at ht
  by_cases h1 : s < 1
  · rw [if_pos h1] at ht; omega
  rw [if_neg h1] at ht
  by_cases h2 : (n : Int) / 2 < s
  · rw [if_pos h2] at ht; omega
  rw [if_neg h2] at ht
  cases hp : pwb s
  · rw [if_pos hp] at ht; omega
  rw [if_neg (by rw [hp]; decide)] at ht
  by_cases hmn : (m : Int) = n
  · have hh' := hh
    unfold hasp at hh'
    have hn : n ≤ 16777216 := by
      by_cases h : (n : Int) ≤ 16777216
      · omega
      · rw [decide_eq_false h] at hh'; cases hh'
    have hn2 : pwb n = true := by
      rw [decide_eq_true (by omega : (n : Int) ≤ 16777216)] at hh'
      simpa using hh'
    obtain ⟨_, a, ha⟩ := pwb_isp hn2
    obtain ⟨_, b, hb⟩ := pwb_isp hp
    rw [Int.toNat_natCast] at ha
    obtain ⟨s', rfl⟩ : ∃ s' : Nat, s = s' := ⟨s.toNat, by omega⟩
    rw [Int.toNat_natCast] at hb
    have hps : hasp (s' : Int) = true := by unfold hasp; rw [hp, Bool.and_true]; exact decide_eq_true (by omega)
    have hlt : b < a := by
      by_cases h : b < a
      · exact h
      · have : 2 ^ a ≤ 2 ^ b := Nat.pow_le_pow_right (by omega) (by omega)
        omega
    refine ⟨rfl, hps, by omega, s', 2 ^ (a - b - 1), rfl, ?_, by omega, Nat.pow_pos (by omega), hn⟩
    rw [ha, hb, show 2 * 2 ^ b = 2 ^ (b + 1) by rw [Nat.pow_succ]; omega, ← Nat.pow_add]
    congr 1
    omega
  · rw [if_neg hmn] at ht; omega
end stockPasses
end Go.Proofs.YtbhnlfgccldmaaaGreat
/- Package stock: With; Stockham's way is the transform. -/
namespace Go.Proofs.YtbhnlfgccldmaaaGreat
open Go.ChangeShapes Go.WideShapes Go.ChangeAt Go.RowKit
set_option linter.unusedVariables false
attribute [local go_sem ↓] Go.wp_at_zero Go.wp_at_succ
/-- What j passes leave. -/
def passes (xs ws : List Int) (n : Nat) : Nat → List Int
  | 0 => redl xs
  | j + 1 => passl (passes xs ws n j) ws (2 ^ j) n
theorem passes_len (xs ws : List Int) (n j : Nat) (h : xs.length = n) : (passes xs ws n j).length = n := by
  cases j with
  | zero => show (redl xs).length = n; rw [redl_len, h]
  | succ j => exact passl_len _ _ _ _
theorem passes_wf (xs ws : List Int) (n j : Nat) : ∀ z ∈ passes xs ws n j, (Lit.int .u64 z).wf = true := by
  cases j with
  | zero => exact redl_wf xs
  | succ j => exact passl_wf _ _ _ _
def tw (j : Nat) : Nat := 2 ^ j
theorem tw_zero : tw 0 = 1 := rfl
theorem tw_succ (j : Nat) : tw (j + 1) = tw j * 2 := by unfold tw; rw [Nat.pow_succ]
theorem tw_pos (j : Nat) : 0 < tw j := Nat.pow_pos (by omega)
theorem tw_lt {j a : Nat} (h : j < a) : tw j < tw a ∧ 2 * tw j * tw (a - j - 1) = tw a := by
  unfold tw
  refine ⟨Nat.pow_lt_pow_right (by omega) h, ?_⟩
  rw [show 2 * 2 ^ j = 2 ^ (j + 1) by rw [Nat.pow_succ]; omega, ← Nat.pow_add]
  congr 1
  omega
theorem passes_succ (xs ws : List Int) (n j : Nat) : passes xs ws n (j + 1) = passl (passes xs ws n j) ws (tw j) n := rfl
/-- Two rows of the call's own: what is done, and room. -/
structure Two (W w : World) (Bl Bo n : Nat) (zl zo : List Int) : Prop where
  l : RowAt w Bl 62 zl
  o : RowAt w Bo 62 zo
  z : zo.length = n
  ne : Bl ≠ Bo
  hl : W.heap.size ≤ Bl
  ho : W.heap.size ≤ Bo
  b : Below W.heap.size W w
theorem Two.swap {W w w' : World} {Bl Bo n : Nat} {zl zo zn : List Int} (h : Two W w Bl Bo n zl zo) (hb : But w w' Bo) (hr : RowAt w' Bo 62 zn) (hz : zl.length = n) : Two W w' Bo Bl n zn zl :=
  ⟨hr, by unfold RowAt; rw [hb.o Bl h.l.lt h.ne]; exact h.l, hz, h.ne.symm, h.ho, h.hl, h.b.trans (hb.b _ h.ho h.b.size)⟩
theorem c_redat (p : Option Addr) (n c : Nat) (xs : List Int) (w : World) (h : Row w p n xs) : Calls Tryz.prog 88 #[.slice p n c] w fun e w' => e = .returned (.slice (some ⟨w.heap.size, 0, none⟩) n n) ∧ RowAt w' w.heap.size 62 (redl xs) ∧ Below w.heap.size w w' := by
  obtain ⟨rfl, hr, hw, hs⟩ := h
  refine (vec_red p c xs w hr hw (by omega)).mono fun e w' ⟨he, hq, hb⟩ => ?_
  rw [scl_one] at hq
  exact ⟨he, hq, hb⟩
set_option maxRecDepth 100000 in
set_option maxHeartbeats 4000000 in
theorem stock_withW (a n : Nat) (ax aw : Option Addr) (cx cw : Nat) (xs ws : List Int) (W : World) (hn : n = 2 ^ a) (hsm : n ≤ 16777216) (hx : Row W ax n xs) (hw : Row W aw n ws) :
    Calls Tryz.prog 172 #[.slice ax n cx, .slice aw n cw] W (GivesOkNw W n (passes xs ws n a)) := by
  have pn : hasp n = true := by unfold hasp; rw [decide_eq_true (by omega : (n : Int) ≤ 16777216), Bool.true_and]; exact pwb_yes (by have := Nat.pow_pos (n := a) (show 0 < 2 by omega); omega) ⟨a, by rw [Int.toNat_natCast, hn]⟩
  have hmk := make_u64 n (by omega)
  have HH1 := fun w => stock_has (n : Int) w
  rw [pn] at HH1
  have H1 := Lib.hid HH1
  have RD := Lib.hid (fun w h => c_redat ax n cx xs w h)
  have HX := Lib.hid hx
  have HY := Lib.hid hw
  have HN := Lib.hid hn
  clear HH1 hx hw pn hn
  go_enter Tryz.func172, Tryz.ntmps172
  go_wp2_with fail
  refine (H1.out _).mono ?_
  rintro e w1 ⟨rfl, rfl⟩
  go_wp2_with fail
  have hB0 : Below W.heap.size W W := Below.refl _ _
  go_region_held3 (fun w' => Below W.heap.size W w') (first | exact hB0.drew | assumption | exact (by assumption : Below W.heap.size W _).trans (hb.mono (by assumption : Below W.heap.size W _).size) | exact (by assumption : Below W.heap.size W _).alloc (by assumption : Below W.heap.size W _).size _ | exact ((by assumption : Below W.heap.size W _).alloc (by assumption : Below W.heap.size W _).size _).drew) (first | (go_at_call 88; (with_reducible refine (RD.out _ (HX.out.below (by assumption))).mono ?_); rintro e w1 ⟨rfl, hq, hb⟩))
  all_goals
    go_wp2_with fail
    go_loopw [6, 7, 8] (fun l o i wr => ∃ (j Bl Bo : Nat) (zo : List Int), j ≤ a ∧ l = .slice (some ⟨Bl, 0, none⟩) n n ∧ o = .slice (some ⟨Bo, 0, none⟩) n n ∧ i = .int .i64 ((tw j : Nat) : Int) ∧ Hid (Two W wr Bl Bo n (passes xs ws n j) zo)) (fun _ _ i _ => n - (intOf i).toNat)
    case atStart =>
      first
      | exact ⟨0, W.heap.size, w1.heap.size, List.replicate n 0, Nat.zero_le _, rfl, rfl, rfl, Lib.hid ⟨(show RowAt _ W.heap.size 62 (redl xs) from RowAt.alloc hq _), RowAt.made w1 _ n, by simp, by have : W.heap.size < w1.heap.size := hq.lt; omega, Nat.le_refl _, hb.size, by assumption⟩⟩
      | exact ⟨0, W.heap.size + 1, W.heap.size, List.replicate n 0, Nat.zero_le _, rfl, rfl, rfl, Lib.hid ⟨(show RowAt w1 (W.heap.size + 1) 62 (redl xs) by simpa using hq), (RowAt.made W.drew _ n).below hb, by simp, by omega, by omega, Nat.le_refl _, by assumption⟩⟩
    case round =>
      clear hq hb
      obtain ⟨j, Bl, Bo, zo, hj, rfl, rfl, rfl, TT⟩ := hrel
      have hp := tw_pos j
      have hn1 : tw a = n := HN.out.symm
      by_cases hlt : j < a
      · obtain ⟨q1, q2⟩ := tw_lt hlt
        rw [hn1] at q1 q2
        have I := Lib.hid (stock_into Bo (tw j) (tw (a - j - 1)) n (some ⟨Bl, 0, none⟩) aw n n cw (passes xs ws n j) ws zo wr q2 hp (tw_pos _) hsm (Row.of_at TT.out.l (passes_wf _ _ _ _) (passes_len _ _ _ _ HX.out.len) HX.out.small) (HY.out.below TT.out.b) TT.out.o TT.out.z (by intro x e; cases e; exact TT.out.ne) (row_away HY.out (by omega) TT.out.ho))
        have HS := Lib.hid (tw_succ j)
        have HP := Lib.hid (passes_succ xs ws n j)
        have hlz := Lib.hid (passes_len xs ws n j HX.out.len)
        clear q2 hn1
        generalize tw j = s at *
        have hd : decide ((s : Int) < (n : Int)) = true := decide_eq_true (by omega)
        go_wp2_with fail
        refine I.out.mono ?_
        rintro e w2 ⟨rfl, r2, k2⟩
        have T2 := Lib.hid (TT.out.swap k2 r2 hlz.out)
        rw [← HP.out] at T2
        clear r2 k2 I TT
        go_wp2_with fail
        go_roundw
        case rel => exact ⟨j + 1, Bo, Bl, _, by omega, rfl, rfl, by rw [HS.out]; go_num, T2⟩
        case measure => (first | (simp [intOf]; done) | (simp [intOf]; omega) | (simp only [intOf]; omega))
      · obtain rfl : j = a := by omega
        rw [hn1]
        have hd : decide ((n : Int) < (n : Int)) = false := decide_eq_false (by omega)
        clear hn1 hp
        go_wp2_with fail
        go_ret2
        exact ⟨_, _, rfl, Row.of_at TT.out.l (passes_wf _ _ _ _) (passes_len _ _ _ _ HX.out.len) HX.out.small, fun x hx => by (cases hx; exact TT.out.hl), TT.out.b⟩
theorem stock_with (a n : Nat) (ax aw : Option Addr) (cx cw : Nat) (xs ws : List Int) (W : World) (hn : n = 2 ^ a) (hsm : n ≤ 16777216) (hx : Row W ax n xs) (hw : Row W aw n ws) :
    Calls Tryz.prog 172 #[.slice ax n cx, .slice aw n cw] W (GivesOk W n (passes xs ws n a)) :=
  (stock_withW a n ax aw cx cw xs ws W hn hsm hx hw).mono fun e w' h => h.ok
end Go.Proofs.YtbhnlfgccldmaaaGreat
/- StockWith: all passes. -/
namespace Go.Proofs.YtbhnlfgccldmaaaGreat
open Go.ChangeShapes Go.WideShapes Go.ChangeAt Go.RowKit
set_option linter.unusedVariables false
namespace stockWith
open stockPasses
theorem hasp_pow {n : Nat} (h : hasp n = true) : ∃ a, n = 2 ^ a ∧ n ≤ 16777216 := by
  unfold hasp at h
  have hn : n ≤ 16777216 := by
    by_cases c : (n : Int) ≤ 16777216
    · omega
    · rw [decide_eq_false c] at h; cases h
  rw [decide_eq_true (by omega : (n : Int) ≤ 16777216)] at h
  obtain ⟨_, a, ha⟩ := pwb_isp (n := (n : Int)) (by simpa using h)
  exact ⟨a, by rw [Int.toNat_natCast] at ha; exact ha, hn⟩
theorem with_no1 (a0 a1 : Option Addr) (n m c0 c1 : Nat) (W : World) (hn : n ≤ 130) (h : hasp n = false) : Calls Tryz.prog 172 #[.slice a0 n c0, .slice a1 m c1] W fun e w' => e = .returned (.tuple #[.slice none 0 0, .int .i64 4]) ∧ W = w' := by
  have H := fun w => stock_has (n : Int) w
  rw [h] at H
  have H := Lib.hid H
  clear h
  go_enter Tryz.func172, Tryz.ntmps172
  go_wp2_with fail
  refine (H.out _).mono ?_
  rintro e w1 ⟨rfl, rfl⟩
  go_wp2_with fail
  go_ret2
  exact ⟨rfl, rfl⟩
theorem with_no2 (a0 a1 : Option Addr) (n m c0 c1 : Nat) (W : World) (hn : n ≤ 130) (hm : m ≤ 130) (h : hasp n = true) (hne : m ≠ n) : Calls Tryz.prog 172 #[.slice a0 n c0, .slice a1 m c1] W fun e w' => e = .returned (.tuple #[.slice none 0 0, .int .i64 5]) ∧ W = w' := by
  have H := fun w => stock_has (n : Int) w
  rw [h] at H
  have H := Lib.hid H
  have d3 : ((m : Int) != (n : Int)) = true := by simp; omega
  clear h
  go_enter Tryz.func172, Tryz.ntmps172
  go_wp2_with fail
  refine (H.out _).mono ?_
  rintro e w1 ⟨rfl, rfl⟩
  go_wp2_with fail
  go_ret2
  exact ⟨rfl, rfl⟩
end stockWith
end Go.Proofs.YtbhnlfgccldmaaaGreat
/- Stockham's way is the transform: the sums. Plain numbers: no Go text. -/
namespace Go.Proofs.YtbhnlfgccldmaaaGreat
open Go.ChangeShapes Go.WideShapes Go.ChangeAt Go.RowKit
set_option linter.unusedVariables false
/-- The sum of f p times y to the power p, p below m. -/
def ssum (f : Nat → Int) (y : Int) : Nat → Int
  | 0 => 0
  | m + 1 => ssum f y m + f m * y ^ m
theorem ssum_succ (f : Nat → Int) (y : Int) (m : Nat) : ssum f y (m + 1) = ssum f y m + f m * y ^ m := rfl
theorem ssum_ps (f : Nat → Int) (y : Int) : ∀ m, ps y ((List.range m).map f) = ssum f y m
  | 0 => rfl
  | m + 1 => by
    rw [List.range_succ, List.map_append, List.map_cons, List.map_nil, ps_snoc, ssum_ps f y m, ssum_succ]
    simp only [List.length_map, List.length_range]
    rw [Int.mul_comm]
theorem list_range (xs : List Int) : xs = (List.range xs.length).map fun p => xs.getD p 0 := by
  apply List.ext_getElem (by simp)
  intro i h1 h2
  simp [List.getD, h1]
theorem ps_ssum (xs : List Int) (y : Int) (n : Nat) (h : xs.length = n) : ps y xs = ssum (fun p => xs.getD p 0) y n := by
  have e := list_range xs
  rw [h] at e
  have := ssum_ps (fun p => xs.getD p 0) y n
  rw [← e] at this
  exact this
theorem ssum_congr {f g : Nat → Int} {y z : Int} : ∀ m, (∀ p, p < m → fm (f p * y ^ p) = fm (g p * z ^ p)) → fm (ssum f y m) = fm (ssum g z m)
  | 0, _ => rfl
  | m + 1, h => by
    rw [ssum_succ, ssum_succ, ← fm_add_fm, ssum_congr m (fun p hp => h p (by omega)), h m (by omega), fm_add_fm]
theorem ssum_add (g : Nat → Int) (y : Int) (m : Nat) : ∀ k, ssum g y (m + k) = ssum g y m + y ^ m * ssum (fun p => g (p + m)) y k
  | 0 => by simp [ssum]
  | k + 1 => by
    rw [show m + (k + 1) = (m + k) + 1 by omega, ssum_succ, ssum_add g y m k, ssum_succ, Int.pow_add, Nat.add_comm k m]
    grind
theorem ssum_lin (f h : Nat → Int) (c y : Int) : ∀ m, ssum f y m + c * ssum h y m = ssum (fun p => f p + c * h p) y m
  | 0 => by simp [ssum]
  | m + 1 => by
    rw [ssum_succ, ssum_succ, ssum_succ, ← ssum_lin f h c y m]
    grind
/-- One of the sums, and what it comes to when split. -/
theorem ssum_half (g : Nat → Int) (y c : Int) (m : Nat) (h : fm (y ^ m) = fm c) : fm (ssum g y (2 * m)) = fm (ssum (fun p => g p + c * g (p + m)) y m) := by
  rw [show 2 * m = m + m by omega, ssum_add, ← fm_add_r, ← fm_mul_l, h, fm_mul_l, fm_add_r, ssum_lin]
/-- What the passes keep: the transform, of each part. -/
def Keeps (r : Int) (xs z : List Int) (s m : Nat) : Prop := ∀ q k, q < s → k < m → fm (ssum (fun p => z.getD (q + s * p) 0) (r ^ (s * k)) m) = fm (ssum (fun p => xs.getD p 0) (r ^ (q + s * k)) (s * m))
theorem keeps_start (r : Int) (xs : List Int) (n : Nat) (hl : xs.length = n) : Keeps r xs (redl xs) 1 n := by
  intro q k hq hk
  obtain rfl : q = 0 := by omega
  rw [Nat.one_mul, Nat.one_mul, Nat.zero_add]
  refine ssum_congr n (fun p hp => ?_)
  rw [Nat.one_mul, Nat.zero_add, redl_at xs p (by omega), fm_mul_l]
theorem keeps_step {r : Int} {n : Nat} (xs z : List Int) (s m : Nat) (hn : 2 * s * m = n) (hs : 0 < s) (hm : 0 < m) (h1 : fm (r ^ n) = 1) (h2 : fm (r ^ (n / 2)) = fm (-1)) (hk : Keeps r xs z s (2 * m)) : Keeps r xs (passl z (powl r n) s n) (2 * s) m := by
  have hn2 : n / 2 = s * m := by rw [← hn, half_n]
  intro q' k hq' hkm
  have e0 : s * (2 * m) = n := by rw [← hn, ← Nat.mul_assoc, Nat.mul_comm s 2]
  have e1 : 2 * s * m = s * (2 * m) := by rw [hn, e0]
  rw [e1]
  by_cases hq : q' < s
  · have hin : ∀ p, p < m → q' + 2 * s * p < n := fun p hp => by
      have := (prod_facts s m p q' n hn hp hq).2.2.1
      rwa [Nat.mul_comm s 2] at this
    have kk := hk q' (2 * k) hq (by omega)
    rw [show s * (2 * k) = 2 * s * k by rw [← Nat.mul_assoc, Nat.mul_comm s 2]] at kk
    rw [← kk, ssum_half _ _ 1 m (by
      rw [← Int.pow_mul, show 2 * s * k * m = n * k by rw [Nat.mul_right_comm, hn], one_mul_exp h1]; rfl)]
    refine ssum_congr m (fun p hp => ?_)
    have f := hin p hp
    have g := pk_even z (powl r n) q' s p m hq
    rw [hn, Nat.mul_comm s 2] at g
    rw [passl_at _ _ _ _ _ f, g, fm_mul_l, Int.one_mul]
  · obtain ⟨q, rfl⟩ : ∃ q, q' = q + s := ⟨q' - s, by omega⟩
    have hq : q < s := by omega
    have kk := hk q (2 * k + 1) hq (by omega)
    rw [show q + s + 2 * s * k = q + s * (2 * k + 1) by rw [Nat.mul_add, Nat.mul_one, ← Nat.mul_assoc, Nat.mul_comm s 2]; omega, ← kk, ssum_half _ _ (-1) m (by
      rw [← Int.pow_mul, show s * (2 * k + 1) * m = s * m * (2 * k + 1) by rw [Nat.mul_right_comm], Int.pow_mul, ← hn2, ← Fld.fm_pow1, h2, Fld.fm_pow1, Int.pow_succ, Int.pow_mul]
      have : ((-1 : Int) ^ 2) = 1 := by decide
      rw [this, Int.one_pow, Int.one_mul])]
    refine ssum_congr m (fun p hp => ?_)
    obtain ⟨_, _, _, f4, f5, _⟩ := prod_facts s m p q n hn hp hq
    have g := pk_odd z (powl r n) q s p m hq
    rw [hn] at g
    rw [show q + s + 2 * s * p = q + s * (2 * p + 1) by rw [Nat.mul_add, Nat.mul_one, ← Nat.mul_assoc, Nat.mul_comm s 2]; omega, passl_at _ _ _ _ _ f4, g, powl_at _ _ _ f5]
    rw [fm_mul_l, ← fm_mul_l (fm _ * fm _), fm_mul_fm, fm_mul_l]
    congr 1
    have ey : (r ^ (s * (2 * k + 1))) ^ p = r ^ (p * s) * (r ^ (2 * s * k)) ^ p := by
      rw [← Int.pow_mul, ← Int.pow_mul, ← Int.pow_add]
      congr 1
      rw [Nat.mul_add, Nat.mul_one, Nat.add_mul, Nat.mul_comm s p, ← Nat.mul_assoc, Nat.mul_comm s 2]
      omega
    rw [ey, Int.neg_mul, Int.one_mul, ← Int.sub_eq_add_neg]
    grind
theorem keeps_all {r : Int} {n a : Nat} (xs : List Int) (hl : xs.length = n) (hn : n = 2 ^ a) (h1 : fm (r ^ n) = 1) (h2 : 0 < a → fm (r ^ (n / 2)) = fm (-1)) : ∀ j, j ≤ a → Keeps r xs (passes xs (powl r n) n j) (tw j) (tw (a - j))
  | 0, _ => by
    have e : tw (a - 0) = n := hn.symm
    rw [e, tw_zero]
    exact keeps_start r xs n hl
  | j + 1, hj => by
    have i := keeps_all xs hl hn h1 h2 j (by omega)
    obtain ⟨_, e2⟩ := tw_lt (show j < a by omega)
    have e3 : tw (a - j) = 2 * tw (a - (j + 1)) := by
      rw [show a - j = (a - (j + 1)) + 1 by omega, tw_succ, Nat.mul_comm]
    have e4 : tw (j + 1) = 2 * tw j := by rw [tw_succ, Nat.mul_comm]
    rw [e3] at i
    rw [e4, passes_succ]
    refine keeps_step xs _ (tw j) (tw (a - (j + 1))) ?_ (tw_pos _) (tw_pos _) h1 (h2 (by omega)) i
    rw [show a - (j + 1) = a - j - 1 by omega, e2]
    exact hn.symm
theorem passes_fm (xs ws : List Int) (n j k : Nat) (hl : xs.length = n) (hk : k < n) : fm ((passes xs ws n j).getD k 0) = (passes xs ws n j).getD k 0 := by
  cases j with
  | zero => show fm ((redl xs).getD k 0) = (redl xs).getD k 0; rw [redl_at xs k (by omega), fm_fm]
  | succ j => rw [passes_succ, passl_at _ _ _ _ _ hk]; exact fm_small _ (pk_lo _ _ _ _ _) (pk_hi _ _ _ _ _)
theorem stockham {r : Int} {n a : Nat} (xs : List Int) (hl : xs.length = n) (hn : n = 2 ^ a) (h1 : fm (r ^ n) = 1) (h2 : 0 < a → fm (r ^ (n / 2)) = fm (-1)) : passes xs (powl r n) n a = horl r xs n := by
  apply getD_ext (by rw [passes_len _ _ _ _ hl, horl_len])
  intro k hk
  rw [passes_len _ _ _ _ hl] at hk
  have e : tw a = n := hn.symm
  have kk := keeps_all xs hl hn h1 h2 a (Nat.le_refl _) k 0 (by rw [e]; exact hk) (tw_pos _)
  have e2 : tw (a - a) = 1 := by rw [Nat.sub_self]; rfl
  rw [e2, e, Nat.mul_zero, Nat.mul_one, Nat.add_zero, Int.pow_zero] at kk
  rw [horl_at _ _ _ _ hk, hor_fm, hor_ps, ps_ssum xs _ n hl, ← kk, ← passes_fm xs _ n a k hl hk]
  show fm _ = fm (0 + (passes xs (powl r n) n a).getD (k + n * 0) 0 * (1 : Int) ^ 0)
  rw [Nat.mul_zero, Nat.add_zero, Int.pow_zero, Int.mul_one, Int.zero_add]
/-- Half of the order: -1. -/
theorem half_root {r : Int} {n : Nat} (h1 : fm (r ^ n) = 1) (ho : ∀ m, 0 < m → m < n → fm (r ^ m) ≠ 1) (he : n % 2 = 0) (hn : 0 < n) : fm (r ^ (n / 2)) = fm (-1) := by
  have hu := ho (n / 2) (by omega) (by omega)
  have h2 : fm (r ^ (n / 2) * r ^ (n / 2)) = 1 := by
    rw [← Int.pow_add, show n / 2 + n / 2 = n by omega, h1]
  generalize r ^ (n / 2) = u at *
  have h3 : fm ((u - 1) * (u + 1)) = 0 := by
    have : (u - 1) * (u + 1) = u * u - 1 := by grind
    rw [this, ← fm_sub_l, h2]; rfl
  have h4 : fm (u - 1) ≠ 0 := by
    intro e
    apply hu
    have : fm u = fm (fm (u - 1) + 1) := by rw [fm_add_l]; congr 1; omega
    rw [this, e]; rfl
  have h5 := fm_zero_of_mul h3 h4
  have : fm u = fm (fm (u + 1) + (-1)) := by rw [fm_add_l]; congr 1; omega
  rw [this, h5, Int.zero_add]
end Go.Proofs.YtbhnlfgccldmaaaGreat
/- The page's example of layer 5. -/
namespace Go.Proofs.YtbhnlfgccldmaaaGreat
open Go.ChangeShapes Go.WideShapes Go.ChangeAt Go.RowKit
set_option linter.unusedVariables false

theorem rowat3 (w : World) (x y z : Int) : RowAt (w.alloc (.cells #[.int .u64 x, .int .u64 y, .int .u64 z] 62)) w.heap.size 62 [x, y, z] := by
  unfold RowAt; rw [heap_alloc_new]; rfl

end Go.Proofs.YtbhnlfgccldmaaaGreat
/- vec.Unit. -/
namespace Go.Proofs.YtbhnlfgccldmaaaGreat
open Go.ChangeShapes Go.WideShapes Go.ChangeAt Go.RowKit
set_option linter.unusedVariables false

end Go.Proofs.YtbhnlfgccldmaaaGreat
/- The page's example of layer 6; the transform of a unit. -/
namespace Go.Proofs.YtbhnlfgccldmaaaGreat
open Go.ChangeShapes Go.WideShapes Go.ChangeAt Go.RowKit
set_option linter.unusedVariables false
theorem rowat2 (w : World) (x y : Int) : RowAt (w.alloc (.cells #[.int .u64 x, .int .u64 y] 62)) w.heap.size 62 [x, y] := by
  unfold RowAt; rw [heap_alloc_new]; rfl
theorem hor12 : horl (rt 2) [1, 2] 2 = [3, 18446744069414584320] := by
  rw [rt_two]; decide +kernel
end Go.Proofs.YtbhnlfgccldmaaaGreat
/- DftBack: what was transformed is undone; twice there is backwards. -/
namespace Go.Proofs.YtbhnlfgccldmaaaGreat
open Go.ChangeShapes Go.WideShapes Go.ChangeAt Go.RowKit
set_option linter.unusedVariables false
namespace dftBack
open rootTells
theorem inv2_rt (n : Nat) (hh : hasb n = true) : Inv2 (rt n) (finv (rt n)) n := by
  obtain ⟨a, b, c⟩ := hasb_dvd hh
  have h1 := rt_one_pow hh
  rw [Int.toNat_natCast] at h1
  have hrs := rt_inv hh
  have hsn : fm (finv (rt n) ^ n) = 1 := by
    have := pow_one_of hrs n
    rw [Int.mul_pow, ← fm_mul_l, h1, Int.one_mul] at this
    exact this
  have hd : n ∣ 18446744069414584320 := by
    have := Int.dvd_of_emod_eq_zero c
    exact Int.ofNat_dvd.1 (show ((n : Nat) : Int) ∣ ((18446744069414584320 : Nat) : Int) from this)
  refine ⟨h1, hsn, hrs, fun m m0 m1 => order_least (by omega) hd h1 ?_ m0 m1⟩
  intro q hq hqn
  have L := rt_least hh
  rcases hq with rfl | rfl | rfl | rfl | rfl | rfl
  · have := L 0 (by omega) (show (n : Int) % 2 = 0 by omega)
    rwa [show ((n : Int) / qsl.getD 0 0).toNat = n / 2 from by show ((n : Int) / 2).toNat = n / 2; omega] at this
  · have := L 1 (by omega) (show (n : Int) % 3 = 0 by omega)
    rwa [show ((n : Int) / qsl.getD 1 0).toNat = n / 3 from by show ((n : Int) / 3).toNat = n / 3; omega] at this
  · have := L 2 (by omega) (show (n : Int) % 5 = 0 by omega)
    rwa [show ((n : Int) / qsl.getD 2 0).toNat = n / 5 from by show ((n : Int) / 5).toNat = n / 5; omega] at this
  · have := L 3 (by omega) (show (n : Int) % 17 = 0 by omega)
    rwa [show ((n : Int) / qsl.getD 3 0).toNat = n / 17 from by show ((n : Int) / 17).toNat = n / 17; omega] at this
  · have := L 4 (by omega) (show (n : Int) % 257 = 0 by omega)
    rwa [show ((n : Int) / qsl.getD 4 0).toNat = n / 257 from by show ((n : Int) / 257).toNat = n / 257; omega] at this
  · have := L 5 (by omega) (show (n : Int) % 65537 = 0 by omega)
    rwa [show ((n : Int) / qsl.getD 5 0).toNat = n / 65537 from by show ((n : Int) / 65537).toNat = n / 65537; omega] at this
theorem inv2_dir (n : Nat) (d : Int) (hc : chk n d = 0) : Inv2 (rdir n d) (rdir n (1 - d)) n := by
  obtain ⟨hd, hh, _⟩ := chk_ok hc
  rcases hd with rfl | rfl
  · exact inv2_rt n hh
  · exact (inv2_rt n hh).symm
theorem inv_len (n : Nat) (h0 : 1 ≤ n) (h1 : n ≤ 4096) : fm (finv n * n) = 1 := Fld.inv_mul n (by
  have : fm (n : Int) = n := Int.emod_eq_of_lt (by omega) (by omega)
  rw [this]; omega)
theorem undone {r s : Int} {n : Nat} (h : Inv2 r s n) (xs : List Int) (hl : xs.length = n) (h0 : 1 ≤ n) (h1 : n ≤ 4096) : scl (finv n) (horl s (horl r xs n) n) = redl xs := by
  apply getD_ext (by rw [scl_len, horl_len, redl_len, hl])
  intro k hk
  rw [scl_len, horl_len] at hk
  rw [scl_at _ _ k (by rw [horl_len]; exact hk), h.at xs hl k hk, redl_at xs k (by omega), fm_mul_r, ← Int.mul_assoc, ← fm_mul_l, inv_len n h0 h1, Int.one_mul]
theorem redone {r s : Int} {n : Nat} (h : Inv2 r s n) (xs : List Int) (hl : xs.length = n) (h0 : 1 ≤ n) (h1 : n ≤ 4096) : horl r (scl (finv n) (horl s xs n)) n = redl xs := by
  rw [horl_scl, undone h.symm xs hl h0 h1]
theorem twiced {r s : Int} {n : Nat} (h : Inv2 r s n) (xs : List Int) (hl : xs.length = n) : horl r (horl r xs n) n = scl n (revl xs) := by
  apply getD_ext (by rw [horl_len, scl_len, revl_len, hl])
  intro k hk
  rw [horl_len] at hk
  rw [h.twice xs hl k hk, scl_at _ _ k (by rw [revl_len, hl]; exact hk), revl_at xs k (by omega), fm_mul_r, hl]

end dftBack
end Go.Proofs.YtbhnlfgccldmaaaGreat
/- Package stock: Do; Stockham's way is the transform. -/
namespace Go.Proofs.YtbhnlfgccldmaaaGreat
open Go.ChangeShapes Go.WideShapes Go.ChangeAt Go.RowKit
set_option linter.unusedVariables false
theorem hasb_pows : ∀ a, a < 25 → hasb ((2 ^ a : Nat) : Int) = true := by decide +kernel
theorem hasb_pow {n a : Nat} (h : n = 2 ^ a) (hn : n ≤ 16777216) : hasb n = true := by
  have h8 : a < 25 := Nat.lt_of_not_le fun h8 => by
    have := Nat.pow_le_pow_right (show 0 < 2 by omega) h8
    omega
  subst h
  exact hasb_pows a h8
theorem inv2_all (n : Nat) (d : Int) (hh : hasb n = true) (hd : d = 0 ∨ d = 1) : Inv2 (rdir n d) (rdir n (1 - d)) n := by
  rcases hd with rfl | rfl
  · exact dftBack.inv2_rt n hh
  · exact (dftBack.inv2_rt n hh).symm
theorem stock_horl {n a : Nat} {dir : Int} (xs : List Int) (hl : xs.length = n) (h : n = 2 ^ a) (hn : n ≤ 16777216) (hd : dir = 0 ∨ dir = 1) : passes xs (powl (rdir n dir) n) n a = horl (rdir n dir) xs n := by
  have I := inv2_all n dir (hasb_pow h hn) hd
  have hp := Nat.pow_pos (n := a) (show 0 < 2 by omega)
  refine stockham xs hl h I.rn fun ha => half_root I.rn I.ro ?_ (by omega)
  obtain ⟨b, rfl⟩ : ∃ b, a = b + 1 := ⟨a - 1, by omega⟩
  rw [h, Nat.pow_succ]
  omega
set_option maxRecDepth 100000 in
theorem stock_do (n a : Nat) (p : Option Addr) (c : Nat) (dir : Int) (xs : List Int) (W : World) (hr : Row W p n xs) (h : n = 2 ^ a) (hn : n ≤ 16777216) (hd : dir = 0 ∨ dir = 1) :
    Calls Tryz.prog 161 #[.slice p n c, .int .i64 dir] W (GivesOk W n (horl (rdir n dir) xs n)) := by
  have pn : hasp n = true := by unfold hasp; rw [decide_eq_true (by omega : (n : Int) ≤ 16777216), Bool.true_and]; exact pwb_yes (by have := Nat.pow_pos (n := a) (show 0 < 2 by omega); omega) ⟨a, by rw [Int.toNat_natCast, h]⟩
  have H := fun w => stock_has (n : Int) w
  rw [pn] at H
  have H := Lib.hid H
  have r0 := rdir_lo n dir
  have r1 := rdir_hi n dir
  have PW := Lib.hid (fun w => root_powers (rdir n dir) n w r0 (by omega) (by omega))
  have WI := Lib.hid (fun (q : Option Addr) (d : Nat) (w : World) (h1 : Row w p n xs) (h2 : Row w q n (powl (rdir n dir) n)) => stock_with a n p q c d xs (powl (rdir n dir) n) w h (by omega) h1 h2)
  have E := stock_horl xs hr.len h hn hd
  have HP := Lib.hid (powl_wf (rdir n dir) n)
  have HL := Lib.hid (powl_len (rdir n dir) n)
  rw [← E]
  have HX := Lib.hid hr
  have hB : Below W.heap.size W W := Below.refl _ _
  rcases hd with rfl | rfl
  · have R := Lib.hid (show ∀ w, Calls Tryz.prog 184 #[.int .i64 n] w fun e w' => e = .returned (.tuple #[.int .u64 (rdir n 0), .int .i64 0]) ∧ Below w.heap.size w w' from fun w => root_root n w (by omega) (by omega) (hasb_pow h hn))
    clear hr h pn E
    generalize powl (rdir n 0) n = ws at *
    generalize passes xs ws n a = ys at *
    generalize rdir n 0 = r at *
    go_enter Tryz.func161, Tryz.ntmps161
    go_wp2_with fail
    refine (H.out _).mono ?_
    rintro e w1 ⟨rfl, rfl⟩
    go_wp2_with fail
    refine (R.out _).mono ?_
    rintro e w1 ⟨rfl, b1⟩
    have HX := Lib.hid (HX.out.below b1); have hB := hB.trans (b1.mono hB.size); clear b1
    go_wp2_with fail
    refine (PW.out _).mono ?_
    rintro e w1 ⟨rfl, hq, b1⟩
    have HQ := Lib.hid (Row.of_at hq HP.out HL.out (by omega))
    clear hq
    have HX := Lib.hid (HX.out.below b1); have hB := hB.trans (b1.mono hB.size); clear b1
    go_wp2_with fail
    refine (WI.out _ _ _ HX.out HQ.out).mono ?_
    rintro e w1 ⟨q, d, rfl, hr, b1⟩
    have hr := Lib.hid hr
    have hB := hB.trans (b1.mono hB.size); clear b1
    go_wp2_with fail
    go_ret2
    exact ⟨_, _, rfl, hr.out, hB⟩
  · have R := Lib.hid (fun w => root_root n w (by omega) (by omega) (hasb_pow h hn))
    have V := Lib.hid (show ∀ w, Calls Tryz.prog 119 #[.int .u64 (rt n)] w fun e w' => e = .returned (.int .u64 (rdir n 1)) ∧ Below w.heap.size w w' from fun w => gold_inv (rt n) w (rt_lo n) (by have := rt_hi n; omega))
    clear hr h pn E
    generalize powl (rdir n 1) n = ws at *
    generalize passes xs ws n a = ys at *
    generalize rdir n 1 = r at *
    generalize rt n = rr at *
    go_enter Tryz.func161, Tryz.ntmps161
    go_wp2_with fail
    refine (H.out _).mono ?_
    rintro e w1 ⟨rfl, rfl⟩
    go_wp2_with fail
    refine (R.out _).mono ?_
    rintro e w1 ⟨rfl, b1⟩
    have HX := Lib.hid (HX.out.below b1); have hB := hB.trans (b1.mono hB.size); clear b1
    go_wp2_with fail
    refine (V.out _).mono ?_
    rintro e w1 ⟨rfl, b1⟩
    have HX := Lib.hid (HX.out.below b1); have hB := hB.trans (b1.mono hB.size); clear b1
    go_wp2_with fail
    refine (PW.out _).mono ?_
    rintro e w1 ⟨rfl, hq, b1⟩
    have HQ := Lib.hid (Row.of_at hq HP.out HL.out (by omega))
    clear hq
    have HX := Lib.hid (HX.out.below b1); have hB := hB.trans (b1.mono hB.size); clear b1
    go_wp2_with fail
    refine (WI.out _ _ _ HX.out HQ.out).mono ?_
    rintro e w1 ⟨q, d, rfl, hr, b1⟩
    have hr := Lib.hid hr
    have hB := hB.trans (b1.mono hB.size); clear b1
    go_wp2_with fail
    go_ret2
    exact ⟨_, _, rfl, hr.out, hB⟩
end Go.Proofs.YtbhnlfgccldmaaaGreat
/- 'copy' into a row of the call's own. -/
namespace Go.Proofs.YtbhnlfgccldmaaaGreat
open Go.ChangeShapes Go.WideShapes Go.ChangeAt Go.RowKit
set_option linter.unusedVariables false
theorem size_u64 : (Tryz.prog.info? 62).map (·.size) = some 1 := by kernel_rfl
theorem put_cons (zs : List Int) (o : Nat) (a : Int) (T : List Int) (h : o + T.length + 1 ≤ zs.length) : (zs.set o a).take (o + 1) ++ T ++ (zs.set o a).drop (o + 1 + T.length) = zs.take o ++ (a :: T) ++ zs.drop (o + (a :: T).length) := by
  have e1 : (zs.set o a).take (o + 1) = zs.take o ++ [a] := by
    rw [List.take_succ_eq_append_getElem (by rw [List.length_set]; omega), List.take_set_of_le (Nat.le_refl _)]
    simp
  have e2 : (zs.set o a).drop (o + 1 + T.length) = zs.drop (o + (a :: T).length) := by
    rw [List.drop_set_of_lt (by omega)]
    congr 1
    simp only [List.length_cons]; omega
  rw [e1, e2]
  simp
theorem rowAt_setCells {B : Nat} {T : TypeId} : ∀ (vs : List Int) (o : Nat) (zs : List Int) (w : World), RowAt w B T zs → o + vs.length ≤ zs.length → RowAt (w.setCells B o (vs.map (Value.int .u64))) B T (zs.take o ++ vs ++ zs.drop (o + vs.length))
  | [], o, zs, w, h, _ => by simpa [World.setCells] using h
  | v :: r, o, zs, w, h, hl => by
    simp only [List.length_cons] at hl
    have := rowAt_setCells r (o + 1) (zs.set o v) (w.setCell ⟨B, o, none⟩ (.int .u64 v)) (h.set o v) (by rw [List.length_set]; omega)
    rw [put_cons zs o v r (by omega)] at this
    exact this
theorem but_setCells {B : Nat} : ∀ (vs : List Value) (o : Nat) (w : World), But w (w.setCells B o vs) B
  | [], _, w => But.refl w B
  | v :: r, o, w => (But.set w B o v).trans (but_setCells r (o + 1) _)
theorem run_copy_u64 {w : World} {B m dc n sc : Nat} {p : Option Addr} {xs zs : List Int} (ty : TypeId) (hB : RowAt w B 62 zs) (hm : zs.length = m) (hx : Row w p n xs) (hn : n ≤ m) :
    ∃ w', (Builtin.copy_ #[25, 25] ty #[.slice (some ⟨B, 0, none⟩) m dc, .slice p n sc]).run Tryz.prog w = .ok (goInt n) w' ∧ RowAt w' B 62 (xs ++ zs.drop n) ∧ But w w' B := by
  have hl := hx.len
  by_cases h0 : n = 0
  · subst h0
    have e := List.length_eq_zero_iff.1 hl
    subst e
    exact ⟨w, run_copy_none w _ _ ty 62 _ _ _ _ _ _ Tryz.underlying25 size_u64 (by simp), by simpa using hB, But.refl _ _⟩
  · obtain ⟨b, off, rfl, _, _⟩ := hx.cell (k := 0) (by omega)
    have hc : ∀ k, k < n → w.cell? ⟨b, off + k, none⟩ = some (.int .u64 (xs.getD k 0)) := fun k hk => by
      obtain ⟨b', off', e, _, h, _⟩ := hx.cell hk
      cases e; exact h
    have := run_copy_cells (P := Tryz.prog) w 25 25 ty 62 B 0 m dc ⟨b, off, none⟩ n sc (xs.map (Value.int .u64)) Tryz.underlying25 size_u64 (by rw [List.length_map, hl]; exact (Nat.min_eq_left hn).symm) ?_ ?_ ?_ ?_
    · rw [List.length_map, hl] at this
      refine ⟨_, this, ?_, but_setCells _ _ _⟩
      have r := rowAt_setCells xs 0 zs w hB (by omega)
      rw [List.take_zero, List.nil_append, Nat.zero_add, hl] at r
      exact r
    · intro j v hj
      have hj' : j < n := by
        by_cases hlt : j < n
        · exact hlt
        · have : (xs.map (Value.int .u64))[j]? = none := by simp; omega
          rw [this] at hj; cases hj
      have e : (xs.map (Value.int .u64))[j]? = some (.int .u64 (xs.getD j 0)) := by simp [List.getD, show j < xs.length by omega]
      rw [e] at hj
      cases hj
      have hadd : (⟨b, off, none⟩ : Addr).add j = ⟨b, off + j, none⟩ := by unfold Addr.add; split <;> simp_all
      rw [hadd]
      exact hc j hj'
    · intro j hj
      rw [List.length_map, hl] at hj
      rw [Nat.zero_add, hB.cell (k := j) (by omega)]
      rfl
    · intro j _
      exact hB.free (0 + j)
    · intro v hv
      obtain ⟨z, _, rfl⟩ := List.mem_map.1 hv
      rfl
/-- Block B, all else as it was: as Below. -/
theorem But.below {w w' : World} {B : Nat} (h : But w w' B) {H : Nat} (hB : H ≤ B) (hs : H ≤ w.heap.size) : Below H w w' := h.b H hB hs
end Go.Proofs.YtbhnlfgccldmaaaGreat
/- Package chirp, and reference 12. -/
namespace Go.Proofs.YtbhnlfgccldmaaaGreat
open Go.ChangeShapes Go.WideShapes Go.ChangeAt Go.RowKit
set_option linter.unusedVariables false
open rootTells
/-- Triangular numbers. -/
def tri : Nat → Nat
  | 0 => 0
  | i + 1 => tri i + i
def trin (n i : Nat) : Nat := tri i % n
theorem trin_zero (n : Nat) : trin n 0 = 0 := by unfold trin tri; simp
theorem trin_succ (n i : Nat) : (trin n i + i) % n = trin n (i + 1) := by unfold trin; rw [tri, Nat.mod_add_mod]
theorem trin_lt {n : Nat} (i : Nat) (h : 0 < n) : trin n i < n := Nat.mod_lt _ h
/-- The powers by triangular numbers. -/
def rowc (r : Int) (n many : Nat) : List Int := tab many fun i => fm (r ^ trin n i)
theorem rowc_len (r : Int) (n many : Nat) : (rowc r n many).length = many := tab_len _ _
theorem rowc_at (r : Int) (n many k : Nat) (h : k < many) : (rowc r n many).getD k 0 = fm (r ^ trin n k) := tab_at many (fun i => fm (r ^ trin n i)) k h
theorem rowc_wf (r : Int) (n many : Nat) : ∀ z ∈ rowc r n many, (Lit.int .u64 z).wf = true := by
  intro z hz
  unfold rowc tab at hz
  obtain ⟨k, _, rfl⟩ := List.mem_map.1 hz
  exact WalkArith.wf_u64 ⟨fm_lo _, fm_hi' _⟩
theorem chirp_base (n dir : Int) (w : World) (h0 : -9223372036854775808 ≤ n) (h1 : n ≤ 9223372036854775807) (hh : hasb n = true) (hd : dir = 0 ∨ dir = 1) :
    Calls Tryz.prog 181 #[.int .i64 n, .int .i64 dir] w fun e w' => e = .returned (.tuple #[.int .u64 (rdir n dir), .int .i64 0]) ∧ Below w.heap.size w w' := by
  have H := fun w => root_has n w h0 h1
  rw [hh] at H
  have H := Lib.hid H
  rcases hd with rfl | rfl
  · have R := Lib.hid (show ∀ w, Calls Tryz.prog 184 #[.int .i64 n] w fun e w' => e = .returned (.tuple #[.int .u64 (rdir n 0), .int .i64 0]) ∧ Below w.heap.size w w' from fun w => root_root n w h0 h1 hh)
    generalize rdir n 0 = r at *
    clear hh
    go_enter Tryz.func181, Tryz.ntmps181
    go_wp2_with fail
    refine (H.out _).mono ?_
    rintro e w1 ⟨rfl, rfl⟩
    go_wp2_with fail
    refine (R.out _).mono ?_
    rintro e w1 ⟨rfl, b1⟩
    go_wp2_with fail
    go_ret2
    exact ⟨rfl, b1⟩
  · have R := Lib.hid (show ∀ w, Calls Tryz.prog 185 #[.int .i64 n] w fun e w' => e = .returned (.tuple #[.int .u64 (rdir n 1), .int .i64 0]) ∧ Below w.heap.size w w' from fun w => root_back n w h0 h1 hh)
    generalize rdir n 1 = r at *
    clear hh
    go_enter Tryz.func181, Tryz.ntmps181
    go_wp2_with fail
    refine (H.out _).mono ?_
    rintro e w1 ⟨rfl, rfl⟩
    go_wp2_with fail
    refine (R.out _).mono ?_
    rintro e w1 ⟨rfl, b1⟩
    go_wp2_with fail
    go_ret2
    exact ⟨rfl, b1⟩
set_option maxRecDepth 100000 in
theorem chirp_rowat (r : Int) (n many : Nat) (W : World) (r0 : 0 ≤ r) (r1 : r ≤ 18446744069414584320) (h1 : 1 ≤ n) (hn : n ≤ 16777216) (hm : many ≤ 33554432) :
    Calls Tryz.prog 182 #[.int .i64 n, .int .u64 r, .int .i64 many] W fun e w' => ∃ B, e = .returned (.slice (some ⟨B, 0, none⟩) many many) ∧ W.heap.size ≤ B ∧ RowAt w' B 62 (rowc r n many) ∧ Below W.heap.size W w' := by
  have hmk := make_u64 many (by omega)
  have PW := Lib.hid (fun w => root_powers r n w r0 (by omega) hn)
  have YL := Lib.hid (rowc_len r n many)
  have YA := Lib.hid (fun k hk => rowc_at r n many k hk)
  have YW := Lib.hid (rowc_wf r n many)
  have PA := Lib.hid (fun k (hk : k < n) => powl_at r n k hk)
  have PL := Lib.hid (powl_len r n)
  have TZ := trin_zero n
  have db : ((n : Int) == 0) = false := by simp; omega
  have db2 : ¬ ((n : Int) = 0) := by omega
  have db3 : ¬ (n = 0) := by omega
  generalize powl r n = ps at *
  generalize rowc r n many = ys at *
  go_enter Tryz.func182, Tryz.ntmps182
  go_wp2_with fail
  refine (PW.out _).mono ?_
  rintro e w1 ⟨rfl, hq, b1⟩
  have HQ := Lib.hid (hq.alloc (.cells (Array.replicate many (.int .u64 0)) 62))
  have hz := hq.lt
  have hB1 := b1.alloc b1.size (.cells (Array.replicate many (.int .u64 0)) 62)
  have F0 := Lib.hid (Filling.start w1 62 ys many)
  obtain ⟨B, hBz⟩ : ∃ B, w1.heap.size = B := ⟨_, rfl⟩
  have hzB : W.heap.size < B := by omega
  clear hq b1
  go_wp2_with fail

  rw [hBz] at F0
  generalize w1.alloc (.cells (Array.replicate many (.int .u64 0)) 62) = w2 at *
  go_loopw [11, 27] (fun t i wr => ∃ k : Nat, k ≤ many ∧ i = .int .i64 k ∧ t = .int .i64 ((trin n k : Nat) : Int) ∧ Hid (Filling wr B 62 ys k many) ∧ Hid (RowAt wr W.heap.size 62 ps) ∧ Below W.heap.size W wr) (fun _ i _ => many - (intOf i).toNat)
  case atStart => exact ⟨0, Nat.zero_le _, rfl, by rw [TZ]; rfl, F0, HQ, hB1⟩
  case round =>
    clear F0 HQ hB1
    obtain ⟨k, hk, rfl, rfl, HF, HQ, hB⟩ := hrel
    by_cases hlt : k < many
    · have ht := trin_lt k h1
      have hc := HQ.out.cell (k := trin n k) (by rw [PL.out]; exact ht)
      rw [PA.out _ ht] at hc
      obtain ⟨u, hu⟩ := HF.out.cell hlt YL.out
      have hfr := HF.out.free k
      have HS := Lib.hid (YA.out k hlt)
      have HF2 := Lib.hid (HF.out.step hlt YL.out HS.out)
      have HQ2 := Lib.hid (show RowAt (wr.setCell ⟨B, k, none⟩ (.int .u64 (fm (r ^ trin n k)))) W.heap.size 62 ps from (heap_setCell_other wr ⟨B, k, none⟩ W.heap.size _ (by show W.heap.size ≠ B; omega)).trans HQ.out)
      have HT := Lib.hid (trin_succ n k)
      generalize fm (r ^ trin n k) = y at *
      generalize trin n k = t at *
      have hw1 : IntKind.i64.wrap ((t : Int) + (k : Int)) = (t : Int) + (k : Int) := IntWalk.i64_in _ (by omega)
      have hmod : ((t : Int) + (k : Int)).tmod (n : Int) = (((t + k) % n : Nat) : Int) := by
        rw [show ((t : Int) + (k : Int)) = ((t + k : Nat) : Int) from by omega]; rfl
      have hmod' : ((t : Int) + (k : Int)) % (n : Int) = (((t + k) % n : Nat) : Int) := hmod
      rw [HT.out] at hmod hmod'
      have hm0 : (0 : Int) ≤ (t : Int) := by omega
      have hm1 : (t : Int) < (n : Int) := by omega
      go_wp2_with fail
      go_roundw
      case rel => exact ⟨k + 1, by omega, by go_num, by first | rfl | rw [hmod] | rw [hmod'], HF2, HQ2, hB.setCell (Nat.le_of_lt hzB) _⟩
      case measure => (first | (simp [intOf]; done) | (simp [intOf]; omega) | (simp only [intOf]; omega))
    · obtain rfl : k = many := by omega
      go_wp2_with fail
      go_ret
      exact ⟨_, rfl, Nat.le_of_lt hzB, HF.out.done YL.out, hB⟩
theorem chirp_row (r : Int) (n many : Nat) (W : World) (r0 : 0 ≤ r) (r1 : r ≤ 18446744069414584320) (h1 : 1 ≤ n) (hn : n ≤ 16777216) (hm : many ≤ 33554432) :
    Calls Tryz.prog 182 #[.int .i64 n, .int .u64 r, .int .i64 many] W (Gives W many (rowc r n many)) :=
  (chirp_rowat r n many W r0 r1 h1 hn hm).mono fun e w' ⟨_, he, _, hq, hb⟩ => ⟨_, _, he, Row.of_at hq (rowc_wf _ _ _) (rowc_len _ _ _) (by omega), hb⟩
end Go.Proofs.YtbhnlfgccldmaaaGreat
/- Reference 12; the least power of two; the page's example of layer 12. -/
namespace Go.Proofs.YtbhnlfgccldmaaaGreat
open Go.ChangeShapes Go.WideShapes Go.ChangeAt Go.RowKit
set_option linter.unusedVariables false
open rootTells
end Go.Proofs.YtbhnlfgccldmaaaGreat
