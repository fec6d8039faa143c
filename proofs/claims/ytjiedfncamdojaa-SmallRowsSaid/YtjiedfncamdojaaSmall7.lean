/- Package small: what transform makes of one to five numbers is the transform; Do. -/
import Derived.Test.YtjiedfncamdojaaSmall5
import Derived.Test.YtjiedfncamdojaaSmall6
namespace Go.Proofs.Ytjiedfncamdojaa
open Go.ChangeShapes Go.WideShapes Go.ChangeAt Go.RowKit
set_option linter.unusedVariables false
open rootTells
/-- A number's share: at the power k j, looked up modulo the length. -/
theorem share {r : Int} {n : Nat} (h1 : fm (r ^ n) = 1) (x : Int) (k j m : Nat) (hm : k * j % n = m) : fm (x * fm (r ^ m)) = fm (x * (r ^ k) ^ j) := by
  subst hm
  rw [pow_mod h1, fm_mul_r, ← Int.pow_mul]
theorem sum3_fm {a b c b' c' : Int} (hb : fm b = fm b') (hc : fm c = fm c') : fm (a + (fm b + fm c)) = fm (a + (b' + c')) := by
  rw [hb, hc]; unfold fm; omega
theorem sum5_fm {a b c d e b' c' d' e' : Int} (hb : fm b = fm b') (hc : fm c = fm c') (hd : fm d = fm d') (he : fm e = fm e') : fm (a + (fm b + (fm c + (fm d + fm e)))) = fm (a + (b' + (c' + (d' + e')))) := by
  rw [hb, hc, hd, he]; unfold fm; omega
theorem chk_five {n : Nat} {dir : Int} (h : 1 ≤ n) (h5 : n ≤ 5) (hd : dir = 0 ∨ dir = 1) : chk n dir = 0 := by
  rw [chk_dir _ _ hd, if_neg (by rw [hasb_five h h5]; decide), if_neg (by omega)]
theorem rdir_fm (n : Nat) (dir : Int) : fm (rdir n dir) = rdir n dir := fm_small _ (rdir_lo _ _) (rdir_hi _ _)
theorem w2 (r : Int) : fm (r * r) = fm (r ^ 2) := by congr 1; grind
theorem w3 (r : Int) : fm (fm (r * r) * r) = fm (r ^ 3) := by rw [fm_mul_l]; congr 1; grind
theorem w4 (r : Int) : fm (fm (r * r) * fm (r * r)) = fm (r ^ 4) := by rw [fm_mul_fm]; congr 1; grind
theorem hor2 (st a b : Int) : hor st [a, b] = fm (a + b * st ^ 1) := by
  rw [hor_ps]; congr 1; simp only [ps]; grind
theorem hor3 (st a b c : Int) : hor st [a, b, c] = fm (a + (b * st ^ 1 + c * st ^ 2)) := by
  rw [hor_ps]; congr 1; simp only [ps]; grind
theorem hor4 (st a b c d : Int) : hor st [a, b, c, d] = fm (a + (b * st ^ 1 + (c * st ^ 2 + d * st ^ 3))) := by
  rw [hor_ps]; congr 1; simp only [ps]; grind
theorem hor5 (st a b c d e : Int) : hor st [a, b, c, d, e] = fm (a + (b * st ^ 1 + (c * st ^ 2 + (d * st ^ 3 + e * st ^ 4)))) := by
  rw [hor_ps]; congr 1; simp only [ps]; grind
theorem t3 {r v1 v2 : Int} (h1 : fm (r ^ 3) = 1) (e1 : v1 = fm (r ^ 1)) (e2 : v2 = fm (r ^ 2)) (a b c : Int) :
    [fm (a + (b + c)), fm (a + (fm (b * v1) + fm (c * v2))), fm (a + (fm (b * v2) + fm (c * v1)))] = horl r [a, b, c] 3 := by
  subst e1 e2
  apply getD_ext (by rw [horl_len]; rfl)
  intro k hk
  have hk : k < 3 := hk
  rw [horl_at _ _ _ _ hk, hor_fm, hor3]
  have : k = 0 ∨ k = 1 ∨ k = 2 := by omega
  rcases this with rfl | rfl | rfl
  · show fm (a + (b + c)) = _
    congr 1; simp
  · exact sum3_fm (share h1 b 1 1 1 rfl) (share h1 c 1 2 2 rfl)
  · exact sum3_fm (share h1 b 2 1 2 rfl) (share h1 c 2 2 1 rfl)
theorem t5 {r v1 v2 v3 v4 : Int} (h1 : fm (r ^ 5) = 1) (e1 : v1 = fm (r ^ 1)) (e2 : v2 = fm (r ^ 2)) (e3 : v3 = fm (r ^ 3)) (e4 : v4 = fm (r ^ 4)) (a b c d e : Int) :
    [fm (a + (b + (c + (d + e)))), fm (a + (fm (b * v1) + (fm (c * v2) + (fm (d * v3) + fm (e * v4))))), fm (a + (fm (b * v2) + (fm (c * v4) + (fm (d * v1) + fm (e * v3))))), fm (a + (fm (b * v3) + (fm (c * v1) + (fm (d * v4) + fm (e * v2))))), fm (a + (fm (b * v4) + (fm (c * v3) + (fm (d * v2) + fm (e * v1)))))] = horl r [a, b, c, d, e] 5 := by
  subst e1 e2 e3 e4
  apply getD_ext (by rw [horl_len]; rfl)
  intro k hk
  have hk : k < 5 := hk
  rw [horl_at _ _ _ _ hk, hor_fm, hor5]
  have : k = 0 ∨ k = 1 ∨ k = 2 ∨ k = 3 ∨ k = 4 := by omega
  rcases this with rfl | rfl | rfl | rfl | rfl
  · show fm (a + (b + (c + (d + e)))) = _
    congr 1; simp
  · exact sum5_fm (share h1 b 1 1 1 rfl) (share h1 c 1 2 2 rfl) (share h1 d 1 3 3 rfl) (share h1 e 1 4 4 rfl)
  · exact sum5_fm (share h1 b 2 1 2 rfl) (share h1 c 2 2 4 rfl) (share h1 d 2 3 1 rfl) (share h1 e 2 4 3 rfl)
  · exact sum5_fm (share h1 b 3 1 3 rfl) (share h1 c 3 2 1 rfl) (share h1 d 3 3 4 rfl) (share h1 e 3 4 2 rfl)
  · exact sum5_fm (share h1 b 4 1 4 rfl) (share h1 c 4 2 3 rfl) (share h1 d 4 3 2 rfl) (share h1 e 4 4 1 rfl)
theorem t2 {r : Int} (h2 : fm (r ^ 1) = fm (-1)) (a b : Int) : [fm (a + b), fm (a - b)] = horl r [a, b] 2 := by
  apply getD_ext (by rw [horl_len]; rfl)
  intro k hk
  have hk : k < 2 := hk
  rw [horl_at _ _ _ _ hk, hor_fm, hor2]
  have : k = 0 ∨ k = 1 := by omega
  rcases this with rfl | rfl
  · show fm (a + b) = _
    congr 1; simp
  · show fm (a - b) = fm (a + b * (r ^ 1) ^ 1)
    rw [Int.pow_one (r ^ 1), ← fm_add_r, ← fm_mul_r, h2, fm_mul_r, fm_add_r]
    congr 1; omega
theorem sh4 {r : Int} (h2 : fm (r ^ 2) = fm (-1)) (x : Int) (k j q i : Nat) (h : k * j = 2 * q + i) : fm (x * (r ^ k) ^ j) = fm (x * ((-1) ^ q * r ^ i)) := by
  rw [← Int.pow_mul, h, Int.pow_add, Int.pow_mul, ← fm_mul_r x, ← fm_mul_l ((r ^ 2) ^ q), ← Fld.fm_pow1 (r ^ 2), h2, Fld.fm_pow1, fm_mul_l, fm_mul_r]
theorem sum4_fm {a x y z x' y' z' : Int} (hx : fm x = fm x') (hy : fm y = fm y') (hz : fm z = fm z') : fm (a + (x + (y + z))) = fm (a + (x' + (y' + z'))) := by
  unfold fm at *; omega
theorem t4 {r : Int} (h2 : fm (r ^ 2) = fm (-1)) (a b c d : Int) :
    [fm (fm (a + c) + fm (b + d)), fm (fm (a - c) + fm (fm (b - d) * r)), fm (fm (a + c) - fm (b + d)), fm (fm (a - c) - fm (fm (b - d) * r))] = horl r [a, b, c, d] 4 := by
  apply getD_ext (by rw [horl_len]; rfl)
  intro k hk
  have hk : k < 4 := hk
  rw [horl_at _ _ _ _ hk, hor_fm, hor4]
  have : k = 0 ∨ k = 1 ∨ k = 2 ∨ k = 3 := by omega
  rcases this with rfl | rfl | rfl | rfl
  · show fm (fm (a + c) + fm (b + d)) = _
    rw [fm_add_fm]; congr 1; simp; omega
  · show fm (fm (a - c) + fm (fm (b - d) * r)) = _
    rw [sum4_fm (sh4 h2 b 1 1 0 1 rfl) (sh4 h2 c 1 2 1 0 rfl) (sh4 h2 d 1 3 1 1 rfl), fm_add_fm, ← fm_add_r, fm_mul_l, fm_add_r]
    congr 1; grind
  · show fm (fm (a + c) - fm (b + d)) = _
    rw [sum4_fm (sh4 h2 b 2 1 1 0 rfl) (sh4 h2 c 2 2 2 0 rfl) (sh4 h2 d 2 3 3 0 rfl), fm_sub_fm]
    congr 1; grind
  · show fm (fm (a - c) - fm (fm (b - d) * r)) = _
    rw [sum4_fm (sh4 h2 b 3 1 1 1 rfl) (sh4 h2 c 3 2 3 0 rfl) (sh4 h2 d 3 3 4 1 rfl), fm_sub_fm, ← fm_sub_r, fm_mul_l, fm_sub_r]
    congr 1; grind
theorem t1 (r a : Int) : [fm a] = horl r [a] 1 := by
  apply getD_ext (by rw [horl_len]; rfl)
  intro k hk
  have hk : k < 1 := hk
  obtain rfl : k = 0 := by omega
  rw [horl_at _ _ _ _ hk, hor_fm, hor_ps]
  show fm a = fm (a + _ * 0)
  rw [Int.mul_zero, Int.add_zero]
theorem horl_red (r : Int) (xs : List Int) (n : Nat) : horl r (redl xs) n = horl r xs n := by
  apply getD_ext (by rw [horl_len, horl_len])
  intro k hk
  rw [horl_len] at hk
  rw [horl_at _ _ _ _ hk, horl_at _ _ _ _ hk, hor_fm, hor_fm, hor_ps, hor_ps, ps_red]
theorem rdir_half {n : Nat} {dir : Int} (h : 1 ≤ n) (h5 : n ≤ 5) (he : n % 2 = 0) (hd : dir = 0 ∨ dir = 1) : fm (rdir n dir ^ (n / 2)) = fm (-1) := by
  have I := dftBack.inv2_dir n dir (chk_five h h5 hd)
  exact half_rt I.rn I.ro he (by omega)
theorem rdir_n {n : Nat} {dir : Int} (h : 1 ≤ n) (h5 : n ≤ 5) (hd : dir = 0 ∨ dir = 1) : fm (rdir n dir ^ n) = 1 := (dftBack.inv2_dir n dir (chk_five h h5 hd)).rn
theorem rdir_1 (n : Nat) (dir : Int) : rdir n dir = fm (rdir n dir ^ 1) := by rw [Int.pow_one, rdir_fm]
/-- What was told of a row is told of its equal. -/
theorem InRow.eq {W w : World} {B : Nat} {zs ys : List Int} (h : InRow W w B zs) (e : zs = ys) : InRow W w B ys := e ▸ h
theorem small_tr (n B c : Nat) (dir : Int) (xs : List Int) (W : World) (hl : xs.length = n) (h : 1 ≤ n) (h5 : n ≤ 5) (hd : dir = 0 ∨ dir = 1) (hr : RowAt W B 24 (redl xs)) :
    Calls Try.prog 70 #[.slice (some ⟨B, 0, none⟩) n c, .int .i64 dir] W fun e w' => e = .returned (.tuple #[]) ∧ InRow W w' B (horl (rdir n dir) xs n) := by
  rw [← horl_red]
  match n, xs, hl, h, h5, hr with
  | 1, [a], _, _, _, hr =>
    exact (small_one B 0 c dir _ W hr hd).mono fun e w' ⟨he, hi⟩ => ⟨he, hi.eq (by have := t1 (rdir 1 dir) (fm a); rw [fm_fm] at this; exact this)⟩
  | 2, [a, b], _, _, _, hr =>
    exact (small_two B 0 c dir _ (fm a) (fm b) W hr (by show 2 ≤ 2; omega) rfl rfl (fm_lo _) (fm_hi' _) (fm_lo _) (fm_hi' _) hd).mono fun e w' ⟨he, hi⟩ => ⟨he, hi.eq (t2 (rdir_half (n := 2) (by omega) (by omega) rfl hd) (fm a) (fm b))⟩
  | 3, [a, b, d], _, _, _, hr =>
    refine (via_three B 0 c dir (rdir 3 dir) rfl _ W _ hr hd (fun w hI => small_three B 0 c (rdir 3 dir) (rdir_lo _ _) (by have := rdir_hi 3 dir; omega) _ (fm a) (fm b) (fm d) W w hI (by show 3 ≤ 3; omega) rfl (fm_lo _) (fm_hi' _) rfl (fm_lo _) (fm_hi' _) rfl (fm_lo _) (fm_hi' _))).mono fun e w' ⟨he, hi⟩ => ⟨he, hi.eq ?_⟩
    exact t3 (rdir_n (n := 3) (by omega) (by omega) hd) (rdir_1 3 dir) (w2 _) (fm a) (fm b) (fm d)
  | 4, [a, b, d, f], _, _, _, hr =>
    refine (small_four B 0 c dir (rdir 4 dir) rfl _ (fm a) (fm b) (fm d) (fm f) W hr (by show 4 ≤ 4; omega) rfl (fm_lo _) (fm_hi' _) rfl (fm_lo _) (fm_hi' _) rfl (fm_lo _) (fm_hi' _) rfl (fm_lo _) (fm_hi' _) hd).mono fun e w' ⟨he, hi⟩ => ⟨he, hi.eq ?_⟩
    exact t4 (rdir_half (n := 4) (by omega) (by omega) rfl hd) (fm a) (fm b) (fm d) (fm f)
  | 5, [a, b, d, f, g], _, _, _, hr =>
    refine (via_five B 0 c dir (rdir 5 dir) rfl _ W _ hr hd (fun w hI => small_five B 0 c (rdir 5 dir) (rdir_lo _ _) (by have := rdir_hi 5 dir; omega) _ (fm a) (fm b) (fm d) (fm f) (fm g) W w hI (by show 5 ≤ 5; omega) rfl (fm_lo _) (fm_hi' _) rfl (fm_lo _) (fm_hi' _) rfl (fm_lo _) (fm_hi' _) rfl (fm_lo _) (fm_hi' _) rfl (fm_lo _) (fm_hi' _))).mono fun e w' ⟨he, hi⟩ => ⟨he, hi.eq ?_⟩
    exact t5 (rdir_n (n := 5) (by omega) (by omega) hd) (rdir_1 5 dir) (w2 _) (w3 _) (w4 _) (fm a) (fm b) (fm d) (fm f) (fm g)
end Go.Proofs.Ytjiedfncamdojaa
