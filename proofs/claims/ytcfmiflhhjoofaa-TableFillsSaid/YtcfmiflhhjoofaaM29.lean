/- Put together by program (merge.py): Stock5 LStockWith Geo. -/
import Derived.Deep.DrawnRows
import Derived.Outline
import Derived.Test.YtcfmiflhhjoofaaM4
import Derived.Test.YtcfmiflhhjoofaaM27
import Derived.Test.YtcfmiflhhjoofaaM28
/- Package stock: With; Stockham's way is the transform. -/
namespace Go.Proofs.Ytcfmiflhhjoofaa
open Go.ChangeShapes Go.WideShapes Go.ChangeAt Go.RowKit
set_option linter.unusedVariables false
attribute [local go_sem ↓] Go.wp_at_zero Go.wp_at_succ
/-- What j passes leave. -/
def passes (xs ws : List Int) (n : Nat) : Nat → List Int
  | 0 => redl xs
  | j + 1 => passl (passes xs ws n j) ws (2 ^ j) n
theorem passes_len (xs ws : List Int) (n j : Nat) (h : xs.length = n) : (passes xs ws n j).length = n := by
  cases j with
  | zero => show (redl xs).length = n; rw [redl_len, h]
  | succ j => exact passl_len _ _ _ _
theorem passes_wf (xs ws : List Int) (n j : Nat) : ∀ z ∈ passes xs ws n j, (Lit.int .u64 z).wf = true := by
  cases j with
  | zero => exact redl_wf xs
  | succ j => exact passl_wf _ _ _ _
def tw (j : Nat) : Nat := 2 ^ j
theorem tw_zero : tw 0 = 1 := rfl
theorem tw_succ (j : Nat) : tw (j + 1) = tw j * 2 := by unfold tw; rw [Nat.pow_succ]
theorem tw_pos (j : Nat) : 0 < tw j := Nat.pow_pos (by omega)
theorem tw_lt {j a : Nat} (h : j < a) : tw j < tw a ∧ 2 * tw j * tw (a - j - 1) = tw a := by
  unfold tw
  refine ⟨Nat.pow_lt_pow_right (by omega) h, ?_⟩
  rw [show 2 * 2 ^ j = 2 ^ (j + 1) by rw [Nat.pow_succ]; omega, ← Nat.pow_add]
  congr 1
  omega
theorem passes_succ (xs ws : List Int) (n j : Nat) : passes xs ws n (j + 1) = passl (passes xs ws n j) ws (tw j) n := rfl
/-- Two rows of the call's own: what is done, and room. -/
structure Two (W w : World) (Bl Bo n : Nat) (zl zo : List Int) : Prop where
  l : RowAt w Bl 43 zl
  o : RowAt w Bo 43 zo
  z : zo.length = n
  ne : Bl ≠ Bo
  hl : W.heap.size ≤ Bl
  ho : W.heap.size ≤ Bo
  b : Below W.heap.size W w
theorem Two.swap {W w w' : World} {Bl Bo n : Nat} {zl zo zn : List Int} (h : Two W w Bl Bo n zl zo) (hb : But w w' Bo) (hr : RowAt w' Bo 43 zn) (hz : zl.length = n) : Two W w' Bo Bl n zn zl :=
  ⟨hr, by unfold RowAt; rw [hb.o Bl h.l.lt h.ne]; exact h.l, hz, h.ne.symm, h.ho, h.hl, h.b.trans (hb.b _ h.ho h.b.size)⟩
theorem c_redat (p : Option Addr) (n c : Nat) (xs : List Int) (w : World) (h : Row w p n xs) : Calls Try.prog 78 #[.slice p n c] w fun e w' => e = .returned (.slice (some ⟨w.heap.size, 0, none⟩) n n) ∧ RowAt w' w.heap.size 43 (redl xs) ∧ Below w.heap.size w w' := by
  obtain ⟨rfl, hr, hw, hs⟩ := h
  refine (vec_red p c xs w hr hw (by omega)).mono fun e w' ⟨he, hq, hb⟩ => ?_
  rw [scl_one] at hq
  exact ⟨he, hq, hb⟩
set_option maxRecDepth 100000 in
set_option maxHeartbeats 4000000 in
theorem stock_with (a n : Nat) (ax aw : Option Addr) (cx cw : Nat) (xs ws : List Int) (W : World) (hn : n = 2 ^ a) (hsm : n ≤ 16777216) (hx : Row W ax n xs) (hw : Row W aw n ws) :
    Calls Try.prog 70 #[.slice ax n cx, .slice aw n cw] W (GivesOk W n (passes xs ws n a)) := by
  have pn : hasp n = true := by unfold hasp; rw [decide_eq_true (by omega : (n : Int) ≤ 16777216), Bool.true_and]; exact pwb_yes (by have := Nat.pow_pos (n := a) (show 0 < 2 by omega); omega) ⟨a, by rw [Int.toNat_natCast, hn]⟩
  have hmk := make_u64 n (by omega)
  have HH1 := fun w => stock_has (n : Int) w
  rw [pn] at HH1
  have H1 := Lib.hid HH1
  have RD := Lib.hid (fun w h => c_redat ax n cx xs w h)
  have HX := Lib.hid hx
  have HY := Lib.hid hw
  have HN := Lib.hid hn
  clear HH1 hx hw pn hn
  go_enter Try.func70, Try.ntmps70
  go_wp2_with fail
  refine (H1.out _).mono ?_
  rintro e w1 ⟨rfl, rfl⟩
  go_wp2_with fail
  have hB0 : Below W.heap.size W W := Below.refl _ _
  go_region_held3 (fun w' => Below W.heap.size W w') (first | exact hB0.drew | assumption | exact (by assumption : Below W.heap.size W _).trans (hb.mono (by assumption : Below W.heap.size W _).size) | exact (by assumption : Below W.heap.size W _).alloc (by assumption : Below W.heap.size W _).size _ | exact ((by assumption : Below W.heap.size W _).alloc (by assumption : Below W.heap.size W _).size _).drew) (first | (go_at_call 78; (with_reducible refine (RD.out _ (HX.out.below (by assumption))).mono ?_); rintro e w1 ⟨rfl, hq, hb⟩))
  all_goals
    go_wp2_with fail
    go_loopw [6, 7, 8] (fun l o i wr => ∃ (j Bl Bo : Nat) (zo : List Int), j ≤ a ∧ l = .slice (some ⟨Bl, 0, none⟩) n n ∧ o = .slice (some ⟨Bo, 0, none⟩) n n ∧ i = .int .i64 ((tw j : Nat) : Int) ∧ Hid (Two W wr Bl Bo n (passes xs ws n j) zo)) (fun _ _ i _ => n - (intOf i).toNat)
    case atStart =>
      first
      | exact ⟨0, W.heap.size, w1.heap.size, List.replicate n 0, Nat.zero_le _, rfl, rfl, rfl, Lib.hid ⟨(show RowAt _ W.heap.size 43 (redl xs) from RowAt.alloc hq _), RowAt.made w1 _ n, by simp, by have : W.heap.size < w1.heap.size := hq.lt; omega, Nat.le_refl _, hb.size, by assumption⟩⟩
      | exact ⟨0, W.heap.size + 1, W.heap.size, List.replicate n 0, Nat.zero_le _, rfl, rfl, rfl, Lib.hid ⟨(show RowAt w1 (W.heap.size + 1) 43 (redl xs) by simpa using hq), (RowAt.made W.drew _ n).below hb, by simp, by omega, by omega, Nat.le_refl _, by assumption⟩⟩
    case round =>
      clear hq hb
      obtain ⟨j, Bl, Bo, zo, hj, rfl, rfl, rfl, TT⟩ := hrel
      have hp := tw_pos j
      have hn1 : tw a = n := HN.out.symm
      by_cases hlt : j < a
      · obtain ⟨q1, q2⟩ := tw_lt hlt
        rw [hn1] at q1 q2
        have I := Lib.hid (stock_into Bo (tw j) (tw (a - j - 1)) n (some ⟨Bl, 0, none⟩) aw n n cw (passes xs ws n j) ws zo wr q2 hp (tw_pos _) hsm (Row.of_at TT.out.l (passes_wf _ _ _ _) (passes_len _ _ _ _ HX.out.len) HX.out.small) (HY.out.below TT.out.b) TT.out.o TT.out.z (by intro x e; cases e; exact TT.out.ne) (row_away HY.out (by omega) TT.out.ho))
        have HS := Lib.hid (tw_succ j)
        have HP := Lib.hid (passes_succ xs ws n j)
        have hlz := Lib.hid (passes_len xs ws n j HX.out.len)
        clear q2 hn1
        generalize tw j = s at *
        have hd : decide ((s : Int) < (n : Int)) = true := decide_eq_true (by omega)
        go_wp2_with fail
        refine I.out.mono ?_
        rintro e w2 ⟨rfl, r2, k2⟩
        have T2 := Lib.hid (TT.out.swap k2 r2 hlz.out)
        rw [← HP.out] at T2
        clear r2 k2 I TT
        go_wp2_with fail
        go_roundw
        case rel => exact ⟨j + 1, Bo, Bl, _, by omega, rfl, rfl, by rw [HS.out]; go_num, T2⟩
        case measure => (first | (simp [intOf]; done) | (simp [intOf]; omega) | (simp only [intOf]; omega))
      · obtain rfl : j = a := by omega
        rw [hn1]
        have hd : decide ((n : Int) < (n : Int)) = false := decide_eq_false (by omega)
        clear hn1 hp
        go_wp2_with fail
        go_ret2
        exact ⟨_, _, rfl, Row.of_at TT.out.l (passes_wf _ _ _ _) (passes_len _ _ _ _ HX.out.len) HX.out.small, TT.out.b⟩
end Go.Proofs.Ytcfmiflhhjoofaa
/- StockWith: all passes. -/
namespace Go.Proofs.Ytcfmiflhhjoofaa
open Go.ChangeShapes Go.WideShapes Go.ChangeAt Go.RowKit
set_option linter.unusedVariables false
namespace stockWith
open stockPasses
theorem hasp_pow {n : Nat} (h : hasp n = true) : ∃ a, n = 2 ^ a ∧ n ≤ 16777216 := by
  unfold hasp at h
  have hn : n ≤ 16777216 := by
    by_cases c : (n : Int) ≤ 16777216
    · omega
    · rw [decide_eq_false c] at h; cases h
  rw [decide_eq_true (by omega : (n : Int) ≤ 16777216)] at h
  obtain ⟨_, a, ha⟩ := pwb_isp (n := (n : Int)) (by simpa using h)
  exact ⟨a, by rw [Int.toNat_natCast] at ha; exact ha, hn⟩
theorem with_no1 (a0 a1 : Option Addr) (n m c0 c1 : Nat) (W : World) (hn : n ≤ 130) (h : hasp n = false) : Calls Try.prog 70 #[.slice a0 n c0, .slice a1 m c1] W fun e w' => e = .returned (.tuple #[.slice none 0 0, .int .i64 4]) ∧ W = w' := by
  have H := fun w => stock_has (n : Int) w
  rw [h] at H
  have H := Lib.hid H
  clear h
  go_enter Try.func70, Try.ntmps70
  go_wp2_with fail
  refine (H.out _).mono ?_
  rintro e w1 ⟨rfl, rfl⟩
  go_wp2_with fail
  go_ret2
  exact ⟨rfl, rfl⟩
theorem with_no2 (a0 a1 : Option Addr) (n m c0 c1 : Nat) (W : World) (hn : n ≤ 130) (hm : m ≤ 130) (h : hasp n = true) (hne : m ≠ n) : Calls Try.prog 70 #[.slice a0 n c0, .slice a1 m c1] W fun e w' => e = .returned (.tuple #[.slice none 0 0, .int .i64 5]) ∧ W = w' := by
  have H := fun w => stock_has (n : Int) w
  rw [h] at H
  have H := Lib.hid H
  have d3 : ((m : Int) != (n : Int)) = true := by simp; omega
  clear h
  go_enter Try.func70, Try.ntmps70
  go_wp2_with fail
  refine (H.out _).mono ?_
  rintro e w1 ⟨rfl, rfl⟩
  go_wp2_with fail
  go_ret2
  exact ⟨rfl, rfl⟩
end stockWith
end Go.Proofs.Ytcfmiflhhjoofaa
/- Sums of the powers of a root of unity. Plain numbers: no Go text. -/
namespace Go.Proofs.Ytcfmiflhhjoofaa
open Go.ChangeShapes Go.WideShapes Go.ChangeAt Go.RowKit
set_option linter.unusedVariables false
theorem fm_zero_of_mul {a b : Int} (h : fm (a * b) = 0) (ha : fm a ≠ 0) : fm b = 0 := by
  have k := Fld.inv_mul a ha
  generalize fm (a ^ Fld.p2') = i at k
  have e : fm (i * (a * b)) = fm b := by
    rw [← Int.mul_assoc, ← fm_mul_l, k, Int.one_mul]
  rw [← e, ← fm_mul_r, h, Int.mul_zero]
  rfl
/-- The sum of the first n powers. -/
def gsum (r : Int) : Nat → Int
  | 0 => 0
  | k + 1 => gsum r k + r ^ k
theorem gsum_mul (r : Int) : ∀ n, (r - 1) * gsum r n = r ^ n - 1
  | 0 => by simp [gsum]
  | k + 1 => by
    have e : gsum r (k + 1) = gsum r k + r ^ k := rfl
    rw [e, Int.mul_add, gsum_mul r k, Int.pow_succ]
    grind
theorem gsum_zero (r : Int) (n : Nat) (h : fm (r ^ n) = 1) (h1 : fm r ≠ 1) : fm (gsum r n) = 0 := by
  refine fm_zero_of_mul (a := r - 1) ?_ ?_
  · rw [gsum_mul, ← fm_sub_l, h]; rfl
  · intro e
    apply h1
    have : fm r = fm (fm (r - 1) + 1) := by rw [fm_add_l]; congr 1; omega
    rw [this, e]
    rfl
theorem gsum_one (r : Int) (h : fm r = 1) : ∀ n : Nat, fm (gsum r n) = fm n
  | 0 => rfl
  | k + 1 => by
    have e : gsum r (k + 1) = gsum r k + r ^ k := rfl
    have h2 : fm (r ^ k) = 1 := by rw [← Fld.fm_pow1, h, Int.one_pow]; rfl
    rw [e, ← fm_add_l, gsum_one r h k, ← fm_add_r, h2, fm_add_l]
    congr 1
end Go.Proofs.Ytcfmiflhhjoofaa
