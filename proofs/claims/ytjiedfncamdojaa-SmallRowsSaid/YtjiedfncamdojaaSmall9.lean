/- Package small: a piece of a longer row, transformed in its place. -/
import Derived.Test.YtjiedfncamdojaaSmall7
namespace Go.Proofs.Ytjiedfncamdojaa
open Go.ChangeShapes Go.WideShapes Go.ChangeAt Go.RowKit
set_option linter.unusedVariables false
/-- zs with T in the place of what stands from o on. -/
def putl (zs : List Int) (o : Nat) (T : List Int) : List Int := zs.take o ++ T ++ zs.drop (o + T.length)
theorem putl_len (zs : List Int) (o : Nat) (T : List Int) (h : o + T.length ≤ zs.length) : (putl zs o T).length = zs.length := by
  unfold putl; simp; omega
theorem putl_cons (zs : List Int) (o : Nat) (a : Int) (T : List Int) (h : o + T.length + 1 ≤ zs.length) : putl (zs.set o a) (o + 1) T = putl zs o (a :: T) := by
  unfold putl
  have e1 : (zs.set o a).take (o + 1) = zs.take o ++ [a] := by
    rw [List.take_succ_eq_append_getElem (by rw [List.length_set]; omega), List.take_set_of_le (Nat.le_refl _)]
    simp
  have e2 : (zs.set o a).drop (o + 1 + T.length) = zs.drop (o + (a :: T).length) := by
    rw [List.drop_set_of_lt (by omega)]
    congr 1
    simp only [List.length_cons]; omega
  rw [e1, e2]
  simp
theorem putl_nil (zs : List Int) (o : Nat) : putl zs o [] = zs := by unfold putl; simp
theorem putl1 (zs : List Int) (o : Nat) (a : Int) (h : o + 1 ≤ zs.length) : zs.set o a = putl zs o [a] := by
  rw [← putl_cons _ _ _ _ (by simpa using h), putl_nil]
theorem putl2 (zs : List Int) (o : Nat) (a b : Int) (h : o + 2 ≤ zs.length) : (zs.set o a).set (o + 1) b = putl zs o [a, b] := by
  rw [← putl_cons _ _ _ _ (by simpa using h), ← putl1 _ _ _ (by rw [List.length_set]; omega)]
theorem putl3 (zs : List Int) (o : Nat) (a b c : Int) (h : o + 3 ≤ zs.length) : ((zs.set o a).set (o + 1) b).set (o + 2) c = putl zs o [a, b, c] := by
  rw [← putl_cons _ _ _ _ (by simpa using h), ← putl2 _ _ _ _ (by rw [List.length_set]; omega)]
theorem putl5 (zs : List Int) (o : Nat) (a b c d e : Int) (h : o + 5 ≤ zs.length) : ((((zs.set o a).set (o + 1) b).set (o + 2) c).set (o + 3) d).set (o + 4) e = putl zs o [a, b, c, d, e] := by
  rw [← putl_cons _ _ _ _ (by simpa using h), ← putl_cons _ _ _ _ (by simp; omega), ← putl3 _ _ _ _ _ (by simp; omega)]
theorem putl4 (zs : List Int) (o : Nat) (a b c d p0 p1 p2 p3 q1 : Int) (h : o + 4 ≤ zs.length) :
    ((((((((((zs.set o p0).set (o + 2) p2).set (o + 1) p1).set (o + 3) p3).set (o + 2) b).set (o + 3) d).set o a).set (o + 1) q1).set (o + 1) b).set (o + 2) c) = putl zs o [a, b, c, d] := by
  have e : putl zs o [a, b, c, d] = (((zs.set o a).set (o + 1) b).set (o + 2) c).set (o + 3) d := by
    rw [← putl_cons _ _ _ _ (by simpa using h), ← putl3 _ _ _ _ _ (by simp; omega)]
  rw [e]
  apply getD_ext (by simp)
  intro k hk
  simp only [List.length_set] at hk
  by_cases e3 : k = o + 3
  · subst e3
    rw [getD_set_ne (by omega), getD_set_ne (by omega), getD_set_ne (by omega), getD_set_ne (by omega), getD_set_same (by simp; omega), getD_set_same (by simp; omega)]
  rw [getD_set_ne (k := o + 3) e3]
  by_cases e2 : k = o + 2
  · subst e2
    rw [getD_set_same (by simp; omega), getD_set_same (by simp; omega)]
  rw [getD_set_ne (k := o + 2) e2, getD_set_ne (k := o + 2) e2]
  by_cases e1 : k = o + 1
  · subst e1
    rw [getD_set_same (by simp; omega), getD_set_same (by simp; omega)]
  rw [getD_set_ne (k := o + 1) e1, getD_set_ne (k := o + 1) e1, getD_set_ne (k := o + 1) e1]
  by_cases e0 : k = o
  · subst e0
    rw [getD_set_same (by simp; omega), getD_set_same (by omega)]
  rw [getD_set_ne (k := o) e0, getD_set_ne (k := o + 3) e3, getD_set_ne (k := o + 2) e2, getD_set_ne (k := o + 3) e3, getD_set_ne (k := o + 1) e1, getD_set_ne (k := o + 2) e2, getD_set_ne (k := o) e0, getD_set_ne (k := o) e0]
/-- A piece, in its place. -/
theorem small_piece (n B o c : Nat) (dir : Int) (xs zs : List Int) (W : World) (hl : xs.length = n) (h : 1 ≤ n) (h5 : n ≤ 5) (hd : dir = 0 ∨ dir = 1) (hr : RowAt W B 24 zs) (ho : o + n ≤ zs.length) (hz : ∀ i, i < n → zs.getD (o + i) 0 = fm (xs.getD i 0)) :
    Calls Try.prog 70 #[.slice (some ⟨B, o, none⟩) n c, .int .i64 dir] W fun e w' => e = .returned (.tuple #[]) ∧ InRow W w' B (putl zs o (horl (rdir n dir) xs n)) := by
  rw [← horl_red]
  match n, xs, hl, h, h5, ho, hz with
  | 1, [a], _, _, _, ho, hz =>
    have z0 : zs.getD o 0 = fm a := hz 0 (by omega)
    have e : zs = putl zs o [fm a] := by
      rw [← putl1 _ _ _ ho]
      apply getD_ext (by simp)
      intro k hk
      by_cases e0 : k = o
      · subst e0; rw [getD_set_same (by omega), z0]
      · rw [getD_set_ne e0]
    exact (small_one B o c dir _ W hr hd).mono fun e' w' ⟨he, hi⟩ => ⟨he, hi.eq (by rw [show horl (rdir ((1 : Nat) : Int) dir) (redl [a]) 1 = [fm a] by have := t1 (rdir ((1 : Nat) : Int) dir) (fm a); rw [fm_fm] at this; exact this.symm]; exact e)⟩
  | 2, [a, b], _, _, _, ho, hz =>
    exact (small_two B o c dir _ (fm a) (fm b) W hr ho (hz 0 (by omega)) (hz 1 (by omega)) (fm_lo _) (fm_hi' _) (fm_lo _) (fm_hi' _) hd).mono fun e w' ⟨he, hi⟩ => ⟨he, hi.eq (by rw [putl2 _ _ _ _ ho]; exact congrArg _ (t2 (rdir_half (n := 2) (by omega) (by omega) rfl hd) (fm a) (fm b)))⟩
  | 3, [a, b, d], _, _, _, ho, hz =>
    refine (via_three B o c dir (rdir 3 dir) rfl _ W _ hr hd (fun w hI => small_three B o c (rdir 3 dir) (rdir_lo _ _) (by have := rdir_hi 3 dir; omega) _ (fm a) (fm b) (fm d) W w hI ho (hz 0 (by omega)) (fm_lo _) (fm_hi' _) (hz 1 (by omega)) (fm_lo _) (fm_hi' _) (hz 2 (by omega)) (fm_lo _) (fm_hi' _))).mono fun e w' ⟨he, hi⟩ => ⟨he, hi.eq ?_⟩
    rw [putl3 _ _ _ _ _ ho]
    exact congrArg _ (t3 (rdir_n (n := 3) (by omega) (by omega) hd) (rdir_1 3 dir) (w2 _) (fm a) (fm b) (fm d))
  | 4, [a, b, d, f], _, _, _, ho, hz =>
    refine (small_four B o c dir (rdir 4 dir) rfl _ (fm a) (fm b) (fm d) (fm f) W hr ho (hz 0 (by omega)) (fm_lo _) (fm_hi' _) (hz 1 (by omega)) (fm_lo _) (fm_hi' _) (hz 2 (by omega)) (fm_lo _) (fm_hi' _) (hz 3 (by omega)) (fm_lo _) (fm_hi' _) hd).mono fun e w' ⟨he, hi⟩ => ⟨he, hi.eq ?_⟩
    rw [putl4 _ _ _ _ _ _ _ _ _ _ _ ho]
    exact congrArg _ (t4 (rdir_half (n := 4) (by omega) (by omega) rfl hd) (fm a) (fm b) (fm d) (fm f))
  | 5, [a, b, d, f, g], _, _, _, ho, hz =>
    refine (via_five B o c dir (rdir 5 dir) rfl _ W _ hr hd (fun w hI => small_five B o c (rdir 5 dir) (rdir_lo _ _) (by have := rdir_hi 5 dir; omega) _ (fm a) (fm b) (fm d) (fm f) (fm g) W w hI ho (hz 0 (by omega)) (fm_lo _) (fm_hi' _) (hz 1 (by omega)) (fm_lo _) (fm_hi' _) (hz 2 (by omega)) (fm_lo _) (fm_hi' _) (hz 3 (by omega)) (fm_lo _) (fm_hi' _) (hz 4 (by omega)) (fm_lo _) (fm_hi' _))).mono fun e w' ⟨he, hi⟩ => ⟨he, hi.eq ?_⟩
    rw [putl5 _ _ _ _ _ _ _ ho]
    exact congrArg _ (t5 (rdir_n (n := 5) (by omega) (by omega) hd) (rdir_1 5 dir) (w2 _) (w3 _) (w4 _) (fm a) (fm b) (fm d) (fm f) (fm g))
end Go.Proofs.Ytjiedfncamdojaa
