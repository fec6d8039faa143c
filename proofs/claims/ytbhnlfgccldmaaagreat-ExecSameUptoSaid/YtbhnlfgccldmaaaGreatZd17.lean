/- Put together by program (merge2.py): Genr Tab4 Tab5 Tab6 Gmp Nam. -/
import Derived.WideKeyEntry
import Derived.DeepKeys4
import Derived.Maps.Keyed
import Derived.Maps.RangeRun
import Derived.Test.YtbhnlfgccldmaaaGreatZd11
import Derived.Test.YtbhnlfgccldmaaaGreatZd14
import Derived.Test.YtbhnlfgccldmaaaGreatZd15
import Derived.Test.YtbhnlfgccldmaaaGreatZd16
/- Package gen: Gen, Powers, Order; reference 9's Gen, Powers; the page's example. -/
namespace Go.Proofs.YtbhnlfgccldmaaaGreat
open Go.ChangeShapes Go.WideShapes Go.ChangeAt Go.RowKit
set_option linter.unusedVariables false
/-- The least number that makes all below q. -/
structure IsMk (q g : Nat) : Prop where
  one : 1 ≤ g
  lt : g < q
  ord : IsOrd q g (q - 1)
  least : ∀ h, 1 ≤ h → h < g → ¬ IsOrd q h (q - 1)
theorem IsMk.uniq {q a b : Nat} (h : IsMk q a) (k : IsMk q b) : a = b := by
  rcases Nat.lt_trichotomy a b with c | c | c
  · exact absurd h.ord (k.least a h.one c)
  · exact c
  · exact absurd k.ord (h.least b k.one c)
theorem gen_gen (q : Nat) (W : World) (hq : isP q) (hq2 : q ≤ 131072) :
    Calls Tryz.prog 183 #[.int .i64 (q : Int)] W fun e w' => ∃ g : Nat, e = .returned (.tuple #[.int .i64 (g : Int), .int .i64 0]) ∧ IsMk q g ∧ Below W.heap.size W w' := by
  obtain ⟨G, hG1, hG2, hG3⟩ := maker_ex hq
  have q0 := hq.1
  have GR := fun w => gen_right (q : Int) w
  rw [qrb_of hq hq2] at GR
  have GR := Lib.hid GR
  have GO := Lib.hid (fun g w (h : 1 ≤ g) (h2 : g < q) => gen_order q g w hq hq2 h h2)
  have HG := Lib.hid hG3
  clear hG3
  go_enter Tryz.func183, Tryz.ntmps183
  go_wp2_with fail
  refine (GR.out _).mono ?_
  rintro e w1 ⟨rfl, b1⟩
  go_wp2_with fail
  go_loopw [4] (fun x wr => ∃ g : Nat, x = .int .i64 g ∧ 1 ≤ g ∧ g ≤ G ∧ Hid (∀ h, 1 ≤ h → h < g → ¬ IsOrd q h (q - 1)) ∧ Below W.heap.size W wr) (fun x _ => G - (intOf x).toNat)
  case atStart => exact ⟨1, rfl, Nat.le_refl _, hG1, Lib.hid (fun h a b => by omega), b1⟩
  case round =>
    clear b1
    obtain ⟨g, rfl, g1, g2, HL, hB⟩ := hrel
    have GO1 := Lib.hid (fun w => GO.out g w g1 (by omega))
    have HE := Lib.hid (fun (h : g = G) => (show IsOrd q g (q - 1) by rw [h]; exact HG.out))
    go_wp2_with fail
    refine (GO1.out _).mono ?_
    rintro e w1 ⟨k, rfl, hk, hkd, b1⟩
    have hkq := Nat.le_of_dvd (by omega) hkd
    have hB := hB.trans (b1.mono hB.size); clear b1
    have HK := Lib.hid hk
    clear hk hkd
    by_cases h : k = q - 1
    · have hi : (k : Int) = (q : Int) - 1 := by omega
      have e1 : ((k : Int) != (q : Int) - 1) = false := by simp; omega
      have HM := Lib.hid (show IsMk q g from ⟨g1, by omega, by rw [← h]; exact HK.out, HL.out⟩)
      clear h hi
      go_wp2_with fail
      go_ret2
      exact ⟨g, rfl, HM.out, hB⟩
    · have e1 : ((k : Int) != (q : Int) - 1) = true := by simp; omega
      have hgG : g ≠ G := fun e => h (HK.out.uniq (HE.out e))
      have HL2 := Lib.hid (show ∀ h, 1 ≤ h → h < g + 1 → ¬ IsOrd q h (q - 1) from fun x x1 x2 => by
        by_cases e : x = g
        · rw [e]; exact fun ho => h (HK.out.uniq ho)
        · exact HL.out x x1 (by omega))
      go_wp2_with fail
      go_roundw
      case rel => exact ⟨g + 1, by go_num, by omega, by omega, HL2, hB⟩
      case measure => (first | (simp [intOf]; done) | (simp [intOf]; omega) | (simp only [intOf]; omega))
/-- A number's powers modulo q. -/
def gpl (q g : Nat) : List Int := tab (q - 1) fun i => ((g ^ i % q : Nat) : Int)
theorem gpl_len (q g : Nat) : (gpl q g).length = q - 1 := tab_len _ _
theorem gpl_at (q g k : Nat) (h : k < q - 1) : (gpl q g).getD k 0 = ((g ^ k % q : Nat) : Int) := tab_at (q - 1) (fun i => ((g ^ i % q : Nat) : Int)) k h
theorem gpl_wf {q : Nat} (g : Nat) (h0 : 0 < q) (h : q ≤ 131072) : ∀ z ∈ gpl q g, (Lit.int .i64 z).wf = true := by
  intro z hz
  unfold gpl tab at hz
  obtain ⟨k, hk, rfl⟩ := List.mem_map.1 hz
  have := Nat.mod_lt (g ^ k) h0
  exact WalkArith.wf_i64 ⟨by omega, by omega⟩
set_option maxRecDepth 100000 in
theorem gen_powers (q : Nat) (W : World) (hq : isP q) (hq2 : q ≤ 131072) :
    Calls Tryz.prog 160 #[.int .i64 (q : Int)] W fun e w' => ∃ g, IsMk q g ∧ GivesIOk W (q - 1) (gpl q g) e w' := by
  have q0 := hq.1
  have GG := Lib.hid (fun w => gen_gen q w hq hq2)
  obtain ⟨n, hn⟩ : ∃ n, q - 1 = n := ⟨_, rfl⟩
  have hni : (q : Int) - 1 = (n : Int) := by omega
  have hmk := make_i64 n (by omega)
  have q1 : ((q : Int) == 0) = false := by simp; omega
  have q2 : ¬ ((q : Int) = 0) := by omega
  have q3 : ¬ (q = 0) := by omega
  go_enter Tryz.func160, Tryz.ntmps160
  go_wp2_with fail
  refine (GG.out _).mono ?_
  rintro e w1 ⟨g, rfl, hg, b1⟩
  have hgq := hg.lt
  have HG := Lib.hid hg
  have ML := Lib.hid (show (gpl q g).length = n by rw [gpl_len, hn])
  have MA := Lib.hid (fun k (hk : k < n) => gpl_at q g k (by omega))
  have MW := Lib.hid (gpl_wf g (by omega) hq2)
  have F0 := Lib.hid (FillingI.start w1 3 (gpl q g) n)
  have hzz := b1.size
  have hB0 := b1.alloc hzz (.cells (Array.replicate n (.int .i64 0)) 3)
  have QF := Lib.hid (fun e w' (h : GivesIOk W n (gpl q g) e w') => (show ∃ g, IsMk q g ∧ GivesIOk W (q - 1) (gpl q g) e w' from ⟨g, HG.out, by rw [hn]; exact h⟩))
  have P0 := Lib.hid (show g ^ 0 % q = 1 by rw [Nat.pow_zero]; exact Nat.mod_eq_of_lt (by omega))
  have PS := Lib.hid (fun k p (h : g ^ k % q = p) => (show g ^ (k + 1) % q = p * g % q by rw [Nat.pow_succ, Nat.mul_mod, h, Nat.mod_eq_of_lt hgq]))
  clear hg b1
  generalize gpl q g = ys at *
  go_wp2_with fail
  obtain ⟨B, hBz⟩ : ∃ B, w1.heap.size = B := ⟨_, rfl⟩
  rw [hBz] at F0 hzz ⊢
  generalize w1.alloc (.cells (Array.replicate n (.int .i64 0)) 3) = w3 at *
  go_loopw [7, 22] (fun x i wr => ∃ k p : Nat, k ≤ n ∧ i = .int .i64 k ∧ x = .int .i64 p ∧ p < q ∧ Hid (g ^ k % q = p) ∧ Hid (FillingI wr B 3 ys k n) ∧ Below W.heap.size W wr) (fun _ i _ => n - (intOf i).toNat)
  case atStart => exact ⟨0, 1, Nat.zero_le _, rfl, rfl, by omega, P0, F0, hB0⟩
  case round =>
    clear F0 hB0
    obtain ⟨k, p, hk, rfl, rfl, hp, HP, HF, hB⟩ := hrel
    have hsz := HF.out.lt
    by_cases hlt : k < n
    · have MA1 := MA.out k hlt
      rw [HP.out] at MA1
      have hst := Lib.hid (HF.out.step hlt ML.out MA1)
      obtain ⟨u, hu⟩ := HF.out.cell hlt ML.out
      have hfr := HF.out.free k
      have hpg : p * g ≤ 131072 * 131072 := Nat.mul_le_mul (by omega) (by omega)
      have PS1 := Lib.hid (PS.out k p HP.out)
      obtain ⟨X, hX⟩ : ∃ X, p * g = X := ⟨_, rfl⟩
      rw [hX] at PS1
      have w1' : IntKind.i64.wrap ((p : Int) * (g : Int)) = (X : Int) := by
        rw [(Int.natCast_mul p g).symm, hX]; exact IntWalk.i64_in _ (by omega)
      have m1 := natmod X q
      have m1' := natmod' X q
      have hX1 : X % q < q := Nat.mod_lt _ (by omega)
      generalize X % q = x at *
      clear hX MA1
      go_wp2_with fail
      go_roundw
      case rel => exact ⟨k + 1, x, by omega, by go_num, by go_num, hX1, PS1, hst, hB.setCell hzz _⟩
      case measure => (first | (simp [intOf]; done) | (simp [intOf]; omega) | (simp only [intOf]; omega))
    · obtain rfl : k = n := by omega
      go_wp2_with fail
      go_ret2
      exact QF.out _ _ ⟨_, _, rfl, RowI.of_at (HF.out.done ML.out) MW.out ML.out (by omega), hB⟩
theorem p7 : isP 7 := (isPb_iff 7).1 (by decide)
end Go.Proofs.YtbhnlfgccldmaaaGreat
/- Package table: the makers. -/
namespace Go.Proofs.YtbhnlfgccldmaaaGreat
open Go.ChangeShapes Go.WideShapes Go.ChangeAt Go.RowKit
set_option linter.unusedVariables false
open rootTells
set_option maxRecDepth 100000 in
theorem tab_root (k m d : Int) (N : Nat) (W : World) (hh : hasb N = true) (hd : d = 0 ∨ d = 1) :
    Calls Tryz.prog 163 #[.agg #[.int .i64 k, .int .i64 N, .int .i64 m, .int .i64 d]] W fun e w' => e = .returned (.tuple #[.int .u64 (rdir N d), .int .i64 0]) ∧ Below W.heap.size W w' := by
  have hB := (Below.refl W.heap.size W).alloc (Nat.le_refl _) (.cells #[.int .i64 k, .int .i64 N, .int .i64 m, .int .i64 d] 122)
  obtain ⟨n1, n2, _⟩ := hasb_dvd hh
  rcases hd with rfl | rfl
  · have R := Lib.hid (fun w => (show Calls Tryz.prog 184 #[.int .i64 N] w fun e w' => e = .returned (.tuple #[.int .u64 (rdir N 0), .int .i64 0]) ∧ Below w.heap.size w w' from root_root N w (by omega) (by omega) hh))
    generalize rdir N 0 = z at *
    go_enter Tryz.func163, Tryz.ntmps163
    go_wp2_with fail
    refine (R.out _).mono ?_
    rintro e w1 ⟨rfl, b1⟩
    go_wp2_with fail
    go_ret2
    exact ⟨rfl, hB.trans (b1.mono hB.size)⟩
  · have R := Lib.hid (fun w => (show Calls Tryz.prog 185 #[.int .i64 N] w fun e w' => e = .returned (.tuple #[.int .u64 (rdir N 1), .int .i64 0]) ∧ Below w.heap.size w w' from root_back N w (by omega) (by omega) hh))
    generalize rdir N 1 = z at *
    go_enter Tryz.func163, Tryz.ntmps163
    go_wp2_with fail
    refine (R.out _).mono ?_
    rintro e w1 ⟨rfl, b1⟩
    go_wp2_with fail
    go_ret2
    exact ⟨rfl, hB.trans (b1.mono hB.size)⟩
theorem cells4 {W w1 : World} {k n m d : Int} {T : TypeId} (b1 : Below (W.alloc (.cells #[.int .i64 k, .int .i64 n, .int .i64 m, .int .i64 d] T)).heap.size (W.alloc (.cells #[.int .i64 k, .int .i64 n, .int .i64 m, .int .i64 d] T)) w1) :
    w1.cell? ⟨W.heap.size, 0, none⟩ = some (.int .i64 k) ∧ w1.cell? ⟨W.heap.size, 1, none⟩ = some (.int .i64 n) ∧ w1.cell? ⟨W.heap.size, 2, none⟩ = some (.int .i64 m) ∧ w1.cell? ⟨W.heap.size, 3, none⟩ = some (.int .i64 d) := by
  have hc := fun j (hj : j < 4) => b1.cell (p := ⟨W.heap.size, j, none⟩) (by simp)
  have hn := heap_alloc_new W (.cells #[.int .i64 k, .int .i64 n, .int .i64 m, .int .i64 d] T)
  refine ⟨(hc 0 (by omega)).trans ?_, (hc 1 (by omega)).trans ?_, (hc 2 (by omega)).trans ?_, (hc 3 (by omega)).trans ?_⟩ <;> (rw [cell_of_row _ _ _ _ _ _ hn]; rfl)
set_option maxRecDepth 100000 in
theorem tab_powers (k m d : Int) (N : Nat) (W : World) (hh : hasb N = true) (hd : d = 0 ∨ d = 1) :
    Calls Tryz.prog 132 #[.agg #[.int .i64 k, .int .i64 N, .int .i64 m, .int .i64 d]] W (GivesOk W N (powl (rdir N d) N)) := by
  have hB := (Below.refl W.heap.size W).alloc (Nat.le_refl _) (.cells #[.int .i64 k, .int .i64 N, .int .i64 m, .int .i64 d] 122)
  obtain ⟨n1, n2, _⟩ := hasb_dvd hh
  have RT := Lib.hid (fun w => tab_root k m d N w hh hd)
  have PW := Lib.hid (fun w => root_powers (rdir N d) N w (rdir_lo N d) (by have := rdir_hi N d; omega) (by omega))
  have YL := Lib.hid (powl_len (rdir N d) N)
  have YW := Lib.hid (powl_wf (rdir N d) N)
  generalize powl (rdir N d) N = ys at *
  generalize rdir N d = r at *
  go_enter Tryz.func132, Tryz.ntmps132
  go_wp2_with fail
  refine (RT.out _).mono ?_
  rintro e w1 ⟨rfl, b1⟩
  obtain ⟨c0, c1, c2, c3⟩ := cells4 b1
  have b3 := hB.trans (b1.mono hB.size)
  clear b1 hB
  go_wp2_with fail
  refine (PW.out _).mono ?_
  rintro e w2 ⟨rfl, hq, b2⟩
  have HQ := Lib.hid hq
  have b4 := b3.trans (b2.mono b3.size)
  clear hq b2
  go_wp2_with fail
  go_ret2
  exact ⟨_, _, rfl, Row.of_at HQ.out YW.out YL.out (by omega), b4⟩
set_option maxRecDepth 100000 in
theorem tab_chirp (k m d : Int) (N : Nat) (W : World) (hh : hasb N = true) (hd : d = 0 ∨ d = 1) :
    Calls Tryz.prog 129 #[.agg #[.int .i64 k, .int .i64 N, .int .i64 m, .int .i64 d]] W (GivesOk W N (rowc (rdir N (1 - d)) N N)) := by
  have hB := (Below.refl W.heap.size W).alloc (Nat.le_refl _) (.cells #[.int .i64 k, .int .i64 N, .int .i64 m, .int .i64 d] 122)
  obtain ⟨n1, n2, _⟩ := hasb_dvd hh
  have CR := Lib.hid (fun w => c_crow N N (1 - d) w hh (by omega) (by omega))
  have hw : IntKind.i64.wrap (1 - d) = 1 - d := IntWalk.i64_in _ (by omega)
  generalize rowc (rdir N (1 - d)) N N = ys at *
  go_enter Tryz.func129, Tryz.ntmps129
  go_wp2_with fail
  refine (CR.out _).mono ?_
  rintro e w1 ⟨p, c, rfl, hr, b1⟩
  have HR := Lib.hid hr
  have b3 := hB.trans (b1.mono hB.size)
  clear b1 hB hr
  go_wp2_with fail
  go_ret2
  exact ⟨_, _, rfl, HR.out, b3⟩
set_option maxRecDepth 100000 in
theorem tab_blue (k d : Int) (N M a : Nat) (W : World) (hh : hasb N = true) (hd : d = 0 ∨ d = 1) (hM : M = 2 ^ a) (hM2 : M ≤ 16777216) (h : 2 * N - 1 ≤ M) :
    Calls Tryz.prog 131 #[.agg #[.int .i64 k, .int .i64 N, .int .i64 M, .int .i64 d]] W (GivesOk W M (horl (rdir M 0) (rowc (rdir N d) N (2 * N - 1) ++ List.replicate (M - (2 * N - 1)) 0) M)) := by
  have hB := (Below.refl W.heap.size W).alloc (Nat.le_refl _) (.cells #[.int .i64 k, .int .i64 N, .int .i64 M, .int .i64 d] 122)
  have KE := Lib.hid (fun w => chirp_kernel N M d w hh hd h (hasb_pow hM hM2))
  have SD := Lib.hid (fun p c w h => stock_do M a p c 0 (rowc (rdir N d) N (2 * N - 1) ++ List.replicate (M - (2 * N - 1)) 0) w h hM hM2 (.inl rfl))
  generalize rowc (rdir N d) N (2 * N - 1) ++ List.replicate (M - (2 * N - 1)) 0 = xs at *
  generalize horl (rdir M 0) xs M = ys at *
  clear hM h
  go_enter Tryz.func131, Tryz.ntmps131
  go_wp2_with fail
  refine (KE.out _).mono ?_
  rintro e w1 ⟨p, c, rfl, hr, b1⟩
  have HR := Lib.hid hr
  have b3 := hB.trans (b1.mono hB.size)
  clear b1 hB hr
  go_wp2_with fail
  refine (SD.out _ _ _ HR.out).mono ?_
  rintro e w2 ⟨p2, c2, rfl, hr, b1⟩
  have HR2 := Lib.hid hr
  have b4 := b3.trans (b1.mono b3.size)
  clear b1 b3 hr
  go_wp2_with fail
  go_ret2
  exact ⟨_, _, rfl, HR2.out, b4⟩
end Go.Proofs.YtbhnlfgccldmaaaGreat
/- Package table: the maker of Rader's tables. -/
namespace Go.Proofs.YtbhnlfgccldmaaaGreat
open Go.ChangeShapes Go.WideShapes Go.ChangeAt Go.RowKit
set_option linter.unusedVariables false
open rootTells
/-- What Rader's way multiplies by, before its transform. -/
def rdl (q : Nat) (d : Int) (g : Nat) : List Int := tab (q - 1) fun i => fm (rdir q d ^ (g ^ ((q - 1 - i) % (q - 1)) % q))
theorem rdl_len (q : Nat) (d : Int) (g : Nat) : (rdl q d g).length = q - 1 := tab_len _ _
theorem rdl_at (q : Nat) (d : Int) (g k : Nat) (h : k < q - 1) : (rdl q d g).getD k 0 = fm (rdir q d ^ (g ^ ((q - 1 - k) % (q - 1)) % q)) := tab_at (q - 1) (fun i => fm (rdir q d ^ (g ^ ((q - 1 - i) % (q - 1)) % q))) k h
theorem rdl_wf (q : Nat) (d : Int) (g : Nat) : ∀ z ∈ rdl q d g, (Lit.int .u64 z).wf = true := by
  intro z hz
  unfold rdl tab at hz
  obtain ⟨k, _, rfl⟩ := List.mem_map.1 hz
  exact WalkArith.wf_u64 ⟨fm_lo _, fm_hi' _⟩
set_option maxRecDepth 100000 in
set_option maxHeartbeats 4000000 in
theorem tab_rader (k m d : Int) (q a : Nat) (W : World) (hq : isP q) (hh : hasb q = true) (hd : d = 0 ∨ d = 1) (hM : q - 1 = 2 ^ a) (hM2 : q - 1 ≤ 65536) :
    Calls Tryz.prog 130 #[.agg #[.int .i64 k, .int .i64 q, .int .i64 m, .int .i64 d]] W fun e w' => ∃ g, IsMk q g ∧ GivesOk W (q - 1) (horl (rdir (q - 1 : Nat) 0) (rdl q d g) (q - 1)) e w' := by
  have hB := (Below.refl W.heap.size W).alloc (Nat.le_refl _) (.cells #[.int .i64 k, .int .i64 q, .int .i64 m, .int .i64 d] 122)
  have q0 := hq.1
  have PW := Lib.hid (fun w => tab_powers k m d q w hh hd)
  have GP := Lib.hid (fun w => gen_powers q w hq (by omega))
  have SD := Lib.hid (fun p c g w h => stock_do (q - 1) a p c 0 (rdl q d g) w h hM (by omega) (.inl rfl))
  obtain ⟨n, hn⟩ : ∃ n, q - 1 = n := ⟨_, rfl⟩
  have HN := Lib.hid hn
  have RL := Lib.hid (fun g => (show (rdl q d g).length = n by rw [rdl_len, hn]))
  have RA := Lib.hid (fun g k (h : k < n) => (show (rdl q d g).getD k 0 = fm (rdir q d ^ (g ^ ((n - k) % n) % q)) by rw [rdl_at q d g k (by omega), hn]))
  have RW := Lib.hid (fun g => rdl_wf q d g)
  have PA := Lib.hid (fun j (h : j < q) => powl_at (rdir q d) q j h)
  have GA := Lib.hid (fun g j (h : j < n) => gpl_at q g j (by omega))
  rw [hn] at SD hM2
  have hmk := make_u64 n (by omega)
  clear hM hn
  have hnq : q = n + 1 := by have := HN.out; omega
  have QF := Lib.hid (fun g e w' (hg : IsMk q g) (h : GivesOk W n (horl (rdir n 0) (rdl q d g) n) e w') => (show ∃ g, IsMk q g ∧ GivesOk W (q - 1) (horl (rdir (q - 1 : Nat) 0) (rdl q d g) (q - 1)) e w' from ⟨g, hg, by rw [HN.out]; exact h⟩))
  have n0 : 0 < n := by omega
  have n1 : ((n : Int) == 0) = false := by simp; omega
  have n2 : ¬ ((n : Int) = 0) := by omega
  have n3 : ¬ (n = 0) := by omega
  have hq131 : q ≤ 65537 := by omega
  clear hnq
  generalize powl (rdir q d) q = ws at *
  go_enter Tryz.func130, Tryz.ntmps130
  go_wp2_with fail
  refine (PW.out _).mono ?_
  rintro e w1 ⟨p1, k1, rfl, hr, b1⟩
  obtain ⟨c0, c1, c2, c3⟩ := cells4 b1
  have HW := Lib.hid hr
  have hB := hB.trans (b1.mono hB.size)
  clear b1 hr
  go_wp2_with fail
  refine (GP.out _).mono ?_
  rintro e w2 ⟨g, hg, p2, k2, rfl, hr, b1⟩
  rw [HN.out] at hr ⊢
  have HG := Lib.hid hg
  have HP := Lib.hid hr
  have HW := Lib.hid (HW.out.below b1)
  have hB := hB.trans (b1.mono hB.size)
  clear b1 hr hg c0 c1 c2 c3 GP PW
  have RL := Lib.hid (RL.out g)
  have RA := Lib.hid (fun k h => RA.out g k h)
  have RW := Lib.hid (RW.out g)
  have SD := Lib.hid (fun p c w h => SD.out p c g w h)
  have GA := Lib.hid (fun j h => GA.out g j h)
  have QF := Lib.hid (fun e w' h => QF.out g e w' HG.out h)
  have GL := Lib.hid (fun j => (show g ^ j % q < q from Nat.mod_lt _ (by omega)))
  generalize rdl q d g = ys at *
  generalize gpl q g = gs at *
  have F0 := Lib.hid (Filling.start w2 62 ys n)
  have hB0 := (Below.refl w2.heap.size w2).alloc (Nat.le_refl _) (.cells (Array.replicate n (.int .u64 0)) 62)
  have hBW := Lib.hid hB
  clear hB HG
  go_wp2_with fail
  obtain ⟨wo, rfl⟩ : ∃ wo : World, wo = w2 := ⟨_, rfl⟩
  generalize wo.alloc (.cells (Array.replicate n (.int .u64 0)) 62) = w3 at *
  go_loopw [34] (fun x wr => ∃ i : Nat, i ≤ n ∧ x = .int .i64 i ∧ Hid (Filling wr wo.heap.size 62 ys i n) ∧ Below wo.heap.size wo wr) (fun x _ => n - (intOf x).toNat)
  case atStart => exact ⟨0, Nat.zero_le _, rfl, F0, hB0⟩
  case round =>
    clear F0 hB0
    obtain ⟨i, hi, rfl, HF, hB⟩ := hrel
    have hsz := HF.out.lt
    by_cases hlt : i < n
    · have hm1 : (n - i) % n < n := Nat.mod_lt _ n0
      have RA1 := RA.out i hlt
      have w4 : IntKind.i64.wrap ((n : Int) - (i : Int)) = ((n - i : Nat) : Int) := by
        rw [show (n : Int) - (i : Int) = ((n - i : Nat) : Int) by omega]; exact IntWalk.i64_in _ (by omega)
      have m1 := natmod (n - i) n
      have m1' := natmod' (n - i) n
      have hsub : (n : Int) - (i : Int) = ((n - i : Nat) : Int) := by omega
      have GA1 := GA.out ((n - i) % n) hm1
      have GL1 := GL.out ((n - i) % n)
      obtain ⟨b2, o2, rfl, hb2, hc0, x0, x1⟩ := HP.out.cell hm1
      generalize g ^ ((n - i) % n) % q = v at *
      rw [GA1] at hc0 x0 x1
      generalize n - i = u at *
      generalize u % n = t at *
      have hc : wr.cell? ⟨b2, o2 + t, none⟩ = some (.int .i64 (v : Int)) := (hB.cell (p := ⟨b2, o2 + t, none⟩) hb2).trans hc0
      obtain ⟨b3, o3, rfl, hb3, hd0, y0, y1⟩ := HW.out.cell GL1
      rw [PA.out v GL1] at hd0 y0 y1
      have hd' : wr.cell? ⟨b3, o3 + v, none⟩ = some (.int .u64 (fm (rdir q d ^ v))) := (hB.cell (p := ⟨b3, o3 + v, none⟩) hb3).trans hd0
      have hst := Lib.hid (HF.out.step hlt RL.out RA1)
      obtain ⟨uu, hu⟩ := HF.out.cell hlt RL.out
      have hfr := HF.out.free i
      have hv0 : (0 : Int) ≤ (v : Int) := by omega
      have hv1 : (v : Int) < (q : Int) := by omega
      have ht0 : (0 : Int) ≤ (t : Int) := by omega
      have ht1 : (t : Int) < (n : Int) := by omega
      clear hc0 hd0 RA1 GA1
      generalize fm (rdir q d ^ v) = y at *
      go_wp2_with fail
      go_roundw
      case rel => exact ⟨i + 1, by omega, by go_num, hst, hB.setCell (Nat.le_refl _) _⟩
      case measure => (first | (simp [intOf]; done) | (simp [intOf]; omega) | (simp only [intOf]; omega))
    · obtain rfl : i = n := by omega
      have HR := Lib.hid (Row.of_at (HF.out.done RL.out) RW.out RL.out (by omega))
      clear HF
      go_wp2_with fail
      refine (SD.out _ _ _ HR.out).mono ?_
      rintro e w5 ⟨p5, k5, rfl, hr, b1⟩
      have HR5 := Lib.hid hr
      have hB := hB.trans (b1.mono hB.size)
      clear b1 hr HR
      go_wp2_with fail
      go_ret2
      exact QF.out _ _ ⟨_, _, rfl, HR5.out, hBW.out.trans (hB.mono hBW.out.size)⟩
end Go.Proofs.YtbhnlfgccldmaaaGreat
/- Package table: Make. -/
namespace Go.Proofs.YtbhnlfgccldmaaaGreat
open Go.ChangeShapes Go.WideShapes Go.ChangeAt Go.RowKit
set_option linter.unusedVariables false
open rootTells
/-- The table of a name: its room and its numbers. -/
def TabOf (k : Int) (N M : Nat) (d : Int) (R : Nat) (ys : List Int) : Prop :=
  (k = 1 ∧ R = N ∧ ys = powl (rdir N d) N) ∨ (k = 2 ∧ R = N ∧ ys = rowc (rdir N (1 - d)) N N) ∨
  (k = 3 ∧ R = N - 1 ∧ ∃ g, IsMk N g ∧ ys = horl (rdir (N - 1 : Nat) 0) (rdl N d g) (N - 1)) ∨
  (k = 4 ∧ R = M ∧ ys = horl (rdir M 0) (rowc (rdir N d) N (2 * N - 1) ++ List.replicate (M - (2 * N - 1)) 0) M)
theorem TabOf.uniq {k : Int} {N M : Nat} {d : Int} {R R' : Nat} {ys zs : List Int} (h : TabOf k N M d R ys) (g : TabOf k N M d R' zs) : R = R' ∧ ys = zs := by
  rcases h with ⟨a, b, c⟩ | ⟨a, b, c⟩ | ⟨a, b, x, c, e⟩ | ⟨a, b, c⟩ <;> rcases g with ⟨a', b', c'⟩ | ⟨a', b', c'⟩ | ⟨a', b', x', c', e'⟩ | ⟨a', b', c'⟩ <;> first | omega | skip
  · exact ⟨by omega, by rw [c, c']⟩
  · exact ⟨by omega, by rw [c, c']⟩
  · obtain rfl := c.uniq c'
    exact ⟨by omega, by rw [e, e']⟩
  · exact ⟨by omega, by rw [c, c']⟩
theorem rader_two {q : Nat} (h2 : hasb q = true) (h3 : isP q) (h4 : 3 ≤ q) : q - 1 ≤ 65536 ∧ ∃ a, q - 1 = 2 ^ a := by
  have hd : q ∣ 18446744069414584320 := by
    have h := (hasb_dvd h2).2.2
    rw [show (18446744069414584320 : Int) = ((18446744069414584320 : Nat) : Int) from rfl] at h
    exact Int.natCast_dvd_natCast.1 (Int.dvd_of_emod_eq_zero h)
  have key : ∀ p, 2 ≤ p → p ∣ q → q = p := fun p hp h => by
    rcases h3.dvd h with e | e <;> omega
  rcases prime_part q (by omega) hd with h | h | h | h | h | h
  · have := key 2 (by omega) h; omega
  · obtain rfl := key 3 (by omega) h; exact ⟨by omega, 1, rfl⟩
  · obtain rfl := key 5 (by omega) h; exact ⟨by omega, 2, rfl⟩
  · obtain rfl := key 17 (by omega) h; exact ⟨by omega, 4, rfl⟩
  · obtain rfl := key 257 (by omega) h; exact ⟨by omega, 8, rfl⟩
  · obtain rfl := key 65537 (by omega) h; exact ⟨by omega, 16, rfl⟩
/-- What a small right name is. -/
inductive Nm (k : Int) (N : Nat) (m d : Int) : Prop
  | pows (h : k = 1) (hm : m = 0)
  | chirp (h : k = 2) (hm : m = 0)
  | rader (h : k = 3) (hm : m = 0) (hq : isP N) (a : Nat) (hM : N - 1 = 2 ^ a) (hM2 : N - 1 ≤ 65536)
  | blue (h : k = 4) (M a : Nat) (hm : m = M) (h2 : 2 ≤ N) (hM : M = 2 ^ a) (hM2 : M ≤ 16777216) (hl : 2 * N - 1 ≤ M)
theorem nm_of {k n m d : Int} (h : rightb k n m d = true) : ∃ N : Nat, n = N ∧ hasb N = true ∧ (d = 0 ∨ d = 1) ∧ 1 ≤ N ∧ Nm k N m d := by
  have hh : hasb n = true := by
    cases hh : hasb n with
    | true => rfl
    | false => rw [rightb_has hh] at h; cases h
  have hd : d = 0 ∨ d = 1 := Classical.byContradiction fun hd => by rw [rightb_dir hd] at h; cases h
  obtain ⟨a, b, _⟩ := hasb_dvd hh
  obtain ⟨N, rfl⟩ : ∃ N : Nat, n = N := ⟨n.toNat, by omega⟩
  refine ⟨N, rfl, hh, hd, by omega, ?_⟩
  by_cases k12 : k = 1 ∨ k = 2
  · rw [rightb_12 hh hd k12] at h
    have hm := of_decide_eq_true h
    rcases k12 with hk | hk
    · exact .pows hk hm
    · exact .chirp hk hm
  by_cases k3 : k = 3
  · subst k3
    rw [rightb_3 hh hd, Bool.and_eq_true] at h
    obtain ⟨hm, h3⟩ := of_decide_eq_true h.1
    obtain ⟨q, e, hq, _⟩ := prb_yes h.2
    obtain rfl : N = q := by omega
    obtain ⟨hx2, x, hx⟩ := rader_two hh hq (by omega)
    exact .rader rfl hm hq x hx hx2
  by_cases k4 : k = 4
  · subst k4
    rw [rightb_4 hh hd, Bool.and_eq_true, Bool.and_eq_true] at h
    obtain ⟨⟨h3, h4⟩, h5⟩ := h
    have h3 := of_decide_eq_true h3
    have h5 := of_decide_eq_true h5
    unfold hasp at h4
    rw [Bool.and_eq_true] at h4
    obtain ⟨m1, x, hx⟩ := pwb_isp h4.2
    have h6 : m ≤ 16777216 := of_decide_eq_true h4.1
    exact .blue rfl m.toNat x (by omega) (by omega) hx (by omega) (by omega)
  · rw [rightb_no ⟨k12, k3, k4⟩] at h; cases h
theorem nm_room {k : Int} {N : Nat} {m d : Int} (h : Nm k N m d) (h1 : 1 ≤ N) {R : Nat} {M : Nat} (hM : m = M) {ys : List Int} (ht : TabOf k N M d R ys) : roomi k N m = R := by
  unfold roomi
  rcases ht with ⟨a, b, c⟩ | ⟨a, b, c⟩ | ⟨a, b, x, c, e⟩ | ⟨a, b, c⟩
  · rw [if_neg (by omega), if_neg (by omega), b]
  · rw [if_neg (by omega), if_neg (by omega), b]
  · rw [if_pos a]; omega
  · rw [if_neg (by omega), if_pos a]; omega
set_option maxRecDepth 100000 in
theorem tab_by (k n m d : Int) (W : World) (F : Nat) (hk : (k = 2 ∧ F = 129) ∨ (k = 3 ∧ F = 130) ∨ (k = 4 ∧ F = 131) ∨ (k = 1 ∧ F = 132)) :
    Calls Tryz.prog 92 #[.agg #[.int .i64 k, .int .i64 n, .int .i64 m, .int .i64 d]] W fun e w' => e = .returned (.func (.func F) #[.agg #[.int .i64 k, .int .i64 n, .int .i64 m, .int .i64 d]] #[]) ∧ Below W.heap.size W w' := by
  have hB := fun o => (Below.refl W.heap.size W).alloc (Nat.le_refl _) o
  rcases hk with ⟨rfl, rfl⟩ | ⟨rfl, rfl⟩ | ⟨rfl, rfl⟩ | ⟨rfl, rfl⟩
  all_goals
    go_enter Tryz.func92, Tryz.ntmps92
    go_wp2_with fail
    go_ret
    exact ⟨rfl, hB _⟩
/-- The answer is a row of R numbers, and T of it. -/
def Tabs (T : Nat → List Int → Prop) (w : World) (e : Ending) (w' : World) : Prop := ∃ R ys, T R ys ∧ GivesOk w R ys e w'
set_option maxRecDepth 100000 in
theorem make_powers (n m d : Int) (W : World) (T : Nat → List Int → Prop)
    (rg : ∀ w, Calls Tryz.prog 91 #[.agg #[.int .i64 1, .int .i64 n, .int .i64 m, .int .i64 d]] w fun e w' => e = .returned (.bool true) ∧ Below w.heap.size w w')
    (hc : ∀ w, Calls Tryz.prog 132 #[.agg #[.int .i64 1, .int .i64 n, .int .i64 m, .int .i64 d]] w (Tabs T w)) :
    Calls Tryz.prog 53 #[.agg #[.int .i64 1, .int .i64 n, .int .i64 m, .int .i64 d]] W (Tabs T W) := by
  have hB := (Below.refl W.heap.size W).alloc (Nat.le_refl _) (.cells #[.int .i64 1, .int .i64 n, .int .i64 m, .int .i64 d] 82)
  have RG := Lib.hid rg
  have HC := Lib.hid hc
  have BY := Lib.hid (fun w => tab_by 1 n m d w 132 (.inr (.inr (.inr ⟨rfl, rfl⟩))))
  clear rg hc
  go_enter Tryz.func53, Tryz.ntmps53
  go_wp2_with fail
  refine (RG.out _).mono ?_
  rintro e w1 ⟨rfl, b1⟩
  obtain ⟨c0, c1, c2, c3⟩ := cells4 b1
  have hB := hB.trans (b1.mono hB.size)
  clear b1
  go_wp2_with fail
  refine (BY.out _).mono ?_
  rintro e w2 ⟨rfl, b1⟩
  have hB := hB.trans (b1.mono hB.size)
  clear b1 c0 c1 c2 c3
  go_wp2_with fail
  refine (HC.out _).mono ?_
  rintro e w3 ⟨R, ys, ht, p, c, rfl, hr, b1⟩
  have HT := Lib.hid ht
  have HR := Lib.hid hr
  have hB := hB.trans (b1.mono hB.size)
  clear b1 ht hr
  go_wp2_with fail
  go_ret2
  exact ⟨R, ys, HT.out, _, _, rfl, HR.out, hB⟩
set_option maxRecDepth 100000 in
theorem make_chirp (n m d : Int) (W : World) (T : Nat → List Int → Prop)
    (rg : ∀ w, Calls Tryz.prog 91 #[.agg #[.int .i64 2, .int .i64 n, .int .i64 m, .int .i64 d]] w fun e w' => e = .returned (.bool true) ∧ Below w.heap.size w w')
    (hc : ∀ w, Calls Tryz.prog 129 #[.agg #[.int .i64 2, .int .i64 n, .int .i64 m, .int .i64 d]] w (Tabs T w)) :
    Calls Tryz.prog 53 #[.agg #[.int .i64 2, .int .i64 n, .int .i64 m, .int .i64 d]] W (Tabs T W) := by
  have hB := (Below.refl W.heap.size W).alloc (Nat.le_refl _) (.cells #[.int .i64 2, .int .i64 n, .int .i64 m, .int .i64 d] 82)
  have RG := Lib.hid rg
  have HC := Lib.hid hc
  have BY := Lib.hid (fun w => tab_by 2 n m d w 129 (.inl ⟨rfl, rfl⟩))
  clear rg hc
  go_enter Tryz.func53, Tryz.ntmps53
  go_wp2_with fail
  refine (RG.out _).mono ?_
  rintro e w1 ⟨rfl, b1⟩
  obtain ⟨c0, c1, c2, c3⟩ := cells4 b1
  have hB := hB.trans (b1.mono hB.size)
  clear b1
  go_wp2_with fail
  refine (BY.out _).mono ?_
  rintro e w2 ⟨rfl, b1⟩
  have hB := hB.trans (b1.mono hB.size)
  clear b1 c0 c1 c2 c3
  go_wp2_with fail
  refine (HC.out _).mono ?_
  rintro e w3 ⟨R, ys, ht, p, c, rfl, hr, b1⟩
  have HT := Lib.hid ht
  have HR := Lib.hid hr
  have hB := hB.trans (b1.mono hB.size)
  clear b1 ht hr
  go_wp2_with fail
  go_ret2
  exact ⟨R, ys, HT.out, _, _, rfl, HR.out, hB⟩
set_option maxRecDepth 100000 in
theorem make_rader (n m d : Int) (W : World) (T : Nat → List Int → Prop)
    (rg : ∀ w, Calls Tryz.prog 91 #[.agg #[.int .i64 3, .int .i64 n, .int .i64 m, .int .i64 d]] w fun e w' => e = .returned (.bool true) ∧ Below w.heap.size w w')
    (hc : ∀ w, Calls Tryz.prog 130 #[.agg #[.int .i64 3, .int .i64 n, .int .i64 m, .int .i64 d]] w (Tabs T w)) :
    Calls Tryz.prog 53 #[.agg #[.int .i64 3, .int .i64 n, .int .i64 m, .int .i64 d]] W (Tabs T W) := by
  have hB := (Below.refl W.heap.size W).alloc (Nat.le_refl _) (.cells #[.int .i64 3, .int .i64 n, .int .i64 m, .int .i64 d] 82)
  have RG := Lib.hid rg
  have HC := Lib.hid hc
  have BY := Lib.hid (fun w => tab_by 3 n m d w 130 (.inr (.inl ⟨rfl, rfl⟩)))
  clear rg hc
  go_enter Tryz.func53, Tryz.ntmps53
  go_wp2_with fail
  refine (RG.out _).mono ?_
  rintro e w1 ⟨rfl, b1⟩
  obtain ⟨c0, c1, c2, c3⟩ := cells4 b1
  have hB := hB.trans (b1.mono hB.size)
  clear b1
  go_wp2_with fail
  refine (BY.out _).mono ?_
  rintro e w2 ⟨rfl, b1⟩
  have hB := hB.trans (b1.mono hB.size)
  clear b1 c0 c1 c2 c3
  go_wp2_with fail
  refine (HC.out _).mono ?_
  rintro e w3 ⟨R, ys, ht, p, c, rfl, hr, b1⟩
  have HT := Lib.hid ht
  have HR := Lib.hid hr
  have hB := hB.trans (b1.mono hB.size)
  clear b1 ht hr
  go_wp2_with fail
  go_ret2
  exact ⟨R, ys, HT.out, _, _, rfl, HR.out, hB⟩
set_option maxRecDepth 100000 in
theorem make_blue (n m d : Int) (W : World) (T : Nat → List Int → Prop)
    (rg : ∀ w, Calls Tryz.prog 91 #[.agg #[.int .i64 4, .int .i64 n, .int .i64 m, .int .i64 d]] w fun e w' => e = .returned (.bool true) ∧ Below w.heap.size w w')
    (hc : ∀ w, Calls Tryz.prog 131 #[.agg #[.int .i64 4, .int .i64 n, .int .i64 m, .int .i64 d]] w (Tabs T w)) :
    Calls Tryz.prog 53 #[.agg #[.int .i64 4, .int .i64 n, .int .i64 m, .int .i64 d]] W (Tabs T W) := by
  have hB := (Below.refl W.heap.size W).alloc (Nat.le_refl _) (.cells #[.int .i64 4, .int .i64 n, .int .i64 m, .int .i64 d] 82)
  have RG := Lib.hid rg
  have HC := Lib.hid hc
  have BY := Lib.hid (fun w => tab_by 4 n m d w 131 (.inr (.inr (.inl ⟨rfl, rfl⟩))))
  clear rg hc
  go_enter Tryz.func53, Tryz.ntmps53
  go_wp2_with fail
  refine (RG.out _).mono ?_
  rintro e w1 ⟨rfl, b1⟩
  obtain ⟨c0, c1, c2, c3⟩ := cells4 b1
  have hB := hB.trans (b1.mono hB.size)
  clear b1
  go_wp2_with fail
  refine (BY.out _).mono ?_
  rintro e w2 ⟨rfl, b1⟩
  have hB := hB.trans (b1.mono hB.size)
  clear b1 c0 c1 c2 c3
  go_wp2_with fail
  refine (HC.out _).mono ?_
  rintro e w3 ⟨R, ys, ht, p, c, rfl, hr, b1⟩
  have HT := Lib.hid ht
  have HR := Lib.hid hr
  have hB := hB.trans (b1.mono hB.size)
  clear b1 ht hr
  go_wp2_with fail
  go_ret2
  exact ⟨R, ys, HT.out, _, _, rfl, HR.out, hB⟩
/-- What is made of a small right name. -/
theorem table_make (k m d : Int) (N : Nat) (W : World) (h : rightb k N m d = true) (hh : hasb N = true) (hd : d = 0 ∨ d = 1) (hm : Nm k N m d) :
    Calls Tryz.prog 53 #[.agg #[.int .i64 k, .int .i64 N, .int .i64 m, .int .i64 d]] W (Tabs (TabOf k N m.toNat d) W) := by
  obtain ⟨n1, n2, _⟩ := hasb_dvd hh
  have RG := fun w => need_right k N m d w (by omega)
  rw [h] at RG
  rcases hm with ⟨rfl, rfl⟩ | ⟨rfl, rfl⟩ | ⟨rfl, rfl, hq, a, hM, hM2⟩ | ⟨rfl, M, a, rfl, h2', hM, hM2, hl⟩
  · exact make_powers N 0 d W _ RG (fun w => (tab_powers 1 0 d N w hh hd).mono fun e w' g => ⟨_, _, .inl ⟨rfl, rfl, rfl⟩, g⟩)
  · exact make_chirp N 0 d W _ RG (fun w => (tab_chirp 2 0 d N w hh hd).mono fun e w' g => ⟨_, _, .inr (.inl ⟨rfl, rfl, rfl⟩), g⟩)
  · exact make_rader N 0 d W _ RG (fun w => (tab_rader 3 0 d N a w hq hh hd hM hM2).mono fun e w' ⟨g, hg, hx⟩ => ⟨_, _, .inr (.inr (.inl ⟨rfl, rfl, g, hg, rfl⟩)), hx⟩)
  · exact make_blue N M d W _ RG (fun w => (tab_blue 4 d N M a w hh hd hM hM2 hl).mono fun e w' g => ⟨_, _, .inr (.inr (.inr ⟨rfl, rfl, rfl⟩)), g⟩)
end Go.Proofs.YtbhnlfgccldmaaaGreat
/- Maps of the call's own, whatever the keys are: entries with their numbers; none is ever struck out. -/
namespace Go.Proofs.YtbhnlfgccldmaaaGreat
open Go.ChangeShapes Go.WideShapes Go.ChangeAt Go.RowKit
set_option linter.unusedVariables false
open Go.WideMaps Go.MapKept Go.WideElems Go.ChangeMaps Go.Maps
set_option linter.unusedSimpArgs false
/-- The entries of a map, one by one. -/
def gEnts : Nat → List (Value × Value) → List MapEntry
  | _, [] => []
  | j, p :: l => ⟨p.1, p.2, j⟩ :: gEnts (j + 1) l
/-- The map's block. -/
def gMap (l : List (Value × Value)) : Obj := .map (gEnts 0 l).toArray l.length
theorem gEnts_get : ∀ (j : Nat) (l : List (Value × Value)) (i : Nat), (gEnts j l)[i]? = l[i]?.map (fun p => ⟨p.1, p.2, j + i⟩)
  | _, [], _ => by simp [gEnts]
  | j, p :: l, 0 => rfl
  | j, p :: l, i + 1 => by
    rw [gEnts, List.getElem?_cons_succ, List.getElem?_cons_succ, gEnts_get (j + 1) l i, show j + 1 + i = j + (i + 1) by omega]
theorem gEnts_snoc (p : Value × Value) : ∀ (j : Nat) (l : List (Value × Value)), gEnts j (l ++ [p]) = gEnts j l ++ [⟨p.1, p.2, j + l.length⟩]
  | j, [] => by simp [gEnts]
  | j, q :: l => by
    rw [List.cons_append, gEnts, gEnts_snoc p (j + 1) l, gEnts, List.length_cons, show j + 1 + l.length = j + (l.length + 1) by omega]
    rfl
theorem gEnts_set (v : Value) : ∀ (j : Nat) (l : List (Value × Value)) (i : Nat) (p : Value × Value), l[i]? = some p → (gEnts j l).modify i (fun e => { e with val := v }) = gEnts j (l.set i (p.1, v))
  | _, [], _, _, h => by simp at h
  | j, q :: l, 0, p, h => by
    simp at h; subst h
    rw [gEnts, List.modify_zero_cons, List.set_cons_zero, gEnts]
  | j, q :: l, i + 1, p, h => by
    rw [List.getElem?_cons_succ] at h
    rw [gEnts, List.modify_succ_cons, List.set_cons_succ, gEnts, gEnts_set v (j + 1) l i p h]
theorem gEnts_mem {l : List (Value × Value)} {x : MapEntry} (h : x ∈ gEnts 0 l) : ∃ j p, l[j]? = some p ∧ x = ⟨p.1, p.2, j⟩ := by
  obtain ⟨i, hi⟩ := List.mem_iff_getElem?.1 h
  rw [gEnts_get] at hi
  obtain ⟨p, hp, rfl⟩ := Option.map_eq_some_iff.1 hi
  exact ⟨i, p, hp, by rw [Nat.zero_add]⟩
theorem gEnts_nodup (l : List (Value × Value)) : ((gEnts 0 l).map (·.born)).Nodup := by
  have : (gEnts 0 l).map (·.born) = List.range l.length := by
    apply List.ext_getElem?
    intro i
    rw [List.getElem?_map, gEnts_get]
    by_cases hi : i < l.length
    · rw [List.getElem?_eq_getElem hi, List.getElem?_range hi]
      simp
    · rw [List.getElem?_eq_none (by omega), List.getElem?_eq_none (by simp; omega)]; rfl
  rw [this]; exact List.nodup_range
/-- Keys that may be, each just once. -/
structure GKeys (P : Program) (k : TypeId) (l : List (Value × Value)) : Prop where
  k : ∀ p ∈ l, ∃ kl, keyOf P k p.1 = some kl
  d : ∀ (i j : Nat) (x y : Value × Value), l[i]? = some x → l[j]? = some y → x.1 = y.1 → i = j
theorem GKeys.nil (P : Program) (k : TypeId) : GKeys P k [] := ⟨fun p h => (by cases h), fun i j x y h => (by simp at h)⟩
theorem GKeys.set {P : Program} {k : TypeId} {l : List (Value × Value)} (h : GKeys P k l) {i : Nat} {p : Value × Value} (hp : l[i]? = some p) (v : Value) : GKeys P k (l.set i (p.1, v)) := by
  have hget : ∀ (j : Nat) (x : Value × Value), (l.set i (p.1, v))[j]? = some x → ∃ y, l[j]? = some y ∧ y.1 = x.1 := fun j x hx => by
    by_cases hj : i = j
    · subst hj
      rw [List.getElem?_set_self (List.getElem?_eq_some_iff.1 hp).1] at hx
      cases hx
      exact ⟨p, hp, rfl⟩
    · rw [List.getElem?_set_ne hj] at hx
      exact ⟨x, hx, rfl⟩
  refine ⟨fun x hx => ?_, fun a b x y ha hb e => ?_⟩
  · obtain ⟨j, hj⟩ := List.mem_iff_getElem?.1 hx
    obtain ⟨y, hy, e⟩ := hget j x hj
    rw [← e]
    exact h.k y (List.mem_of_getElem? hy)
  · obtain ⟨x', hx', ex⟩ := hget a x ha
    obtain ⟨y', hy', ey⟩ := hget b y hb
    exact h.d a b x' y' hx' hy' (by rw [ex, ey, e])
theorem GKeys.snoc {P : Program} {k : TypeId} {l : List (Value × Value)} (h : GKeys P k l) {q : Value × Value} {kl : Lit} (hq : keyOf P k q.1 = some kl) (hn : ∀ p ∈ l, p.1 ≠ q.1) : GKeys P k (l ++ [q]) := by
  refine ⟨fun p hp => ?_, fun i j x y hi hj e => ?_⟩
  · rcases List.mem_append.1 hp with hp | hp
    · exact h.k p hp
    · rw [List.mem_singleton] at hp; subst hp; exact ⟨kl, hq⟩
  · have l1 := (List.getElem?_eq_some_iff.1 hi).1
    have l2 := (List.getElem?_eq_some_iff.1 hj).1
    rw [List.length_append, List.length_singleton] at l1 l2
    by_cases h1 : i < l.length
    · rw [List.getElem?_append_left h1] at hi
      by_cases h2 : j < l.length
      · rw [List.getElem?_append_left h2] at hj
        exact h.d i j x y hi hj e
      · rw [List.getElem?_append_right (by omega), show j - l.length = 0 by omega] at hj
        simp at hj; subst hj
        exact absurd e (hn x (List.mem_of_getElem? hi))
    · rw [List.getElem?_append_right (by omega), show i - l.length = 0 by omega] at hi
      simp at hi; subst hi
      by_cases h2 : j < l.length
      · rw [List.getElem?_append_left h2] at hj
        exact absurd e.symm (hn y (List.mem_of_getElem? hj))
      · omega
theorem g_self {w : World} {b : Nat} {o : Obj} (h : w.heap[b]? = some o) : setBlock w b o = w := by
  unfold setBlock
  have hb : b < w.heap.size := Nat.lt_of_not_le fun hn => by rw [Array.getElem?_eq_none hn] at h; cases h
  have : w.heap.setIfInBounds b o = w.heap := by
    apply Array.ext_getElem?
    intro i
    rw [Array.getElem?_setIfInBounds]
    by_cases hi : b = i
    · subst hi; rw [if_pos rfl, if_pos hb, h]
    · rw [if_neg hi]
  first | rw [this] | (cases w; simp_all)
theorem g_born : ∀ (l : List (Value × Value)) (j0 j : Nat), j < l.length → (gEnts j0 l).findIdx? (fun x => ((x.born : Nat) : Int) == ((j0 + j : Nat) : Int)) = some j
  | [], _, _, h => by simp at h
  | p :: l, j0, 0, _ => by simp [gEnts, List.findIdx?_cons]
  | p :: l, j0, j + 1, h => by
    have := g_born l (j0 + 1) j (by simpa using h)
    rw [gEnts, List.findIdx?_cons, if_neg (by simp; omega), show j0 + (j + 1) = j0 + 1 + j by omega, this]
    rfl
theorem g_arr {α : Type} (p : α → Bool) (l : List α) : l.toArray.findIdx? p = l.findIdx? p := by simp
section
variable {P : Program} {k e t : TypeId} {l : List (Value × Value)}
/-- A key that is there. -/
theorem g_there (K : Keyed P k) (ht : P.underlying t = some (.map k e)) (h : GKeys P k l) {j : Nat} {p : Value × Value} (hj : l[j]? = some p) (w : World) (b : Nat) (hb : w.heap[b]? = some (gMap l)) :
    (Instr.lookup t (.map (some b)) p.1 false).run P w = .ok p.2 w ∧ (Instr.lookup t (.map (some b)) p.1 true).run P w = .ok (.tuple #[p.2, .bool true]) w ∧
    (Instr.mapEntry t (.map (some b)) p.1).run P w = .ok (.tuple #[p.2, goInt j]) w ∧
    (∀ val, (Instr.entryStore t (.map (some b)) (goInt j) val).run P w = .ok () (setBlock w b (gMap (l.set j (p.1, val))))) ∧
    ∀ val, (Instr.mapUpdate t (.map (some b)) p.1 val).run P w = .ok () (setBlock w b (gMap (l.set j (p.1, val)))) := by
  have hk : ∀ x ∈ gEnts 0 l, ∃ l, keyOf P k x.key = some l := fun x hx => by
    obtain ⟨i, q, hq, rfl⟩ := gEnts_mem hx
    exact h.k q (List.mem_of_getElem? hq)
  obtain ⟨kl, hkey⟩ := h.k p (List.mem_of_getElem? hj)
  have hjl := (List.getElem?_eq_some_iff.1 hj).1
  have hb' : w.heap[b]? = some (.map (gEnts 0 l).toArray l.length) := hb
  rcases K.find w hkey (gEnts 0 l) hk with ⟨_, h2⟩ | ⟨i, x, h1, h2, h3⟩
  · have hx : (⟨p.1, p.2, 0 + j⟩ : MapEntry) ∈ gEnts 0 l := List.mem_of_getElem? (i := j) (by rw [gEnts_get, hj]; rfl)
    exact absurd rfl (h2 _ hx)
  · rw [gEnts_get] at h2
    obtain ⟨q, hq, rfl⟩ := Option.map_eq_some_iff.1 h2
    obtain rfl : i = j := h.d i j q p hq hj h3
    rw [hj] at hq
    cases hq
    simp only at h1 h3
    have hsame : (gEnts 0 l).modify i (fun e => { key := p.1, val := e.val, born := e.born }) = gEnts 0 l := by
      apply List.ext_getElem?
      intro a
      rw [List.getElem?_modify, gEnts_get]
      by_cases hai : i = a
      · subst hai; rw [hj]; simp
      · simp [hai]
    have e2 := g_self hb'
    simp only [setBlock] at e2
    have hm2 : ∀ val : Value, (gEnts 0 l).modify i (fun e => { key := p.1, val := val, born := e.born }) = gEnts 0 (l.set i (p.1, val)) := fun val => by
      rw [← gEnts_set val 0 l i p hj]
      apply List.ext_getElem?
      intro a
      rw [List.getElem?_modify, List.getElem?_modify, gEnts_get]
      by_cases hai : i = a
      · subst hai; rw [hj]; simp
      · simp [hai]
    have hjj : (gEnts 0 l)[i]? = some ⟨p.1, p.2, i⟩ := by rw [gEnts_get, hj, Nat.zero_add]; rfl
    have hl : ∀ val : Value, (l.set i (p.1, val)).length = l.length := fun val => List.length_set
    refine ⟨?_, ?_, ?_, fun val => ?_, fun val => ?_⟩
    · simp [Instr.lookup, run_underlying ht, MapKept.run_getObj_map hb', K.check w _ hkey, h1, Result.andThen]
    · simp [Instr.lookup, run_underlying ht, MapKept.run_getObj_map hb', K.check w _ hkey, h1, Result.andThen]
    · simp [Instr.mapEntry, run_underlying ht, MapKept.run_getObj_map hb', K.check w false hkey, h1, hjj, K.stays w hkey, hsame, MapKept.run_setObj_map _ hb', Result.andThen, e2]
    · have hf := g_born l 0 i hjl
      rw [Nat.zero_add] at hf
      have hm : (gEnts 0 l).toArray.modify i (fun x => { x with val := val }) = (gEnts 0 (l.set i (p.1, val))).toArray := by
        apply Array.ext'
        rw [Array.toList_modify]
        exact gEnts_set val 0 l i p hj
      simp [Instr.entryStore, MapKept.run_getObj_map hb', asInt, asIntOf, goInt, g_arr, hf, MapKept.run_setObj_map _ hb', Result.andThen, setBlock, gMap, hm, hl]
    · simp [Instr.mapUpdate, run_underlying ht, MapKept.run_getObj_map hb', K.check w false hkey, h1, hjj, K.stays w hkey, MapKept.run_setObj_map _ hb', Result.andThen, setBlock, gMap, hm2, hl]
/-- A key that is not there. -/
theorem g_gone (K : Keyed P k) (ht : P.underlying t = some (.map k e)) (h : GKeys P k l) {z : Value} (hz : ∀ u : World, (zeroValue e).run P u = .ok z u) {key : Value} {kl : Lit} (hkey : keyOf P k key = some kl) (hn : ∀ p ∈ l, p.1 ≠ key) (w : World) (b : Nat) (hb : w.heap[b]? = some (gMap l)) :
    (Instr.lookup t (.map (some b)) key false).run P w = .ok z w ∧ (Instr.lookup t (.map (some b)) key true).run P w = .ok (.tuple #[z, .bool false]) w ∧
    (Instr.mapEntry t (.map (some b)) key).run P w = .ok (.tuple #[z, goInt l.length]) (setBlock w b (gMap (l ++ [(key, z)]))) ∧
    ∀ val, (Instr.mapUpdate t (.map (some b)) key val).run P w = .ok () (setBlock w b (gMap (l ++ [(key, val)]))) := by
  have hk : ∀ x ∈ gEnts 0 l, ∃ l, keyOf P k x.key = some l := fun x hx => by
    obtain ⟨i, q, hq, rfl⟩ := gEnts_mem hx
    exact h.k q (List.mem_of_getElem? hq)
  have hb' : w.heap[b]? = some (.map (gEnts 0 l).toArray l.length) := hb
  have hp : ∀ val, (gEnts 0 l).toArray.push ⟨key, val, l.length⟩ = (gEnts 0 (l ++ [(key, val)])).toArray := fun val => by
    apply Array.ext'
    rw [Array.toList_push, gEnts_snoc, Nat.zero_add]
  rcases K.find w hkey (gEnts 0 l) hk with ⟨h1, h2⟩ | ⟨i, x, h1, h2, h3⟩
  · refine ⟨?_, ?_, ?_, fun val => ?_⟩
    · simp [Instr.lookup, run_underlying ht, MapKept.run_getObj_map hb', K.check w _ hkey, h1, hz, Result.andThen]
    · simp [Instr.lookup, run_underlying ht, MapKept.run_getObj_map hb', K.check w _ hkey, h1, hz, Result.andThen]
    · have := hp z
      simp only [Instr.mapEntry, Sem.run_bind, Sem.run_pure, run_underlying ht, MapKept.run_getObj_map hb', K.check w false hkey, h1, hz, MapKept.run_setObj_map _ hb', Result.andThen, this, gMap, List.length_append, List.length_singleton, setBlock]
    · have := hp val
      simp only [Instr.mapUpdate, Sem.run_bind, Sem.run_pure, run_underlying ht, MapKept.run_getObj_map hb', K.check w false hkey, h1, MapKept.run_setObj_map _ hb', Result.andThen, this, gMap, List.length_append, List.length_singleton, setBlock]
  · rw [gEnts_get] at h2
    obtain ⟨q, hq, rfl⟩ := Option.map_eq_some_iff.1 h2
    exact absurd h3 (hn q (List.mem_of_getElem? hq))
end
theorem gs_heap {w : World} {b : Nat} {o : Obj} {X : Nat} (h : X ≠ b) : (setBlock w b o).heap[X]? = w.heap[X]? := by
  unfold setBlock
  rw [Array.getElem?_setIfInBounds, if_neg (fun e => h e.symm)]
theorem gs_at {w : World} {b : Nat} {o : Obj} (h : b < w.heap.size) : (setBlock w b o).heap[b]? = some o := by
  unfold setBlock
  rw [Array.getElem?_setIfInBounds, if_pos rfl, if_pos h]
theorem gs_size {w : World} {b : Nat} {o : Obj} : (setBlock w b o).heap.size = w.heap.size := by
  unfold setBlock; simp
theorem gs_below {w : World} {b H : Nat} {o : Obj} (h : H ≤ b) : Below H w (setBlock w b o) := ⟨rfl, rfl, rfl, by rw [gs_size]; exact Nat.le_refl _, fun X hX => gs_heap (by omega)⟩
/-- The iterator of a range in block r: these have come. -/
structure GIt (w : World) (r G : Nat) (vs : List (Value × Value)) (sn : List Nat) : Prop where
  r : w.heap[r]? = some (.mapIter (some G) vs.length sn.toArray vs.length)
  g : w.heap[G]? = some (gMap vs)
  d : sn.Nodup
  l : ∀ j ∈ sn, j < vs.length
theorem g_lt {w : World} {b : Nat} {o : Obj} (h : w.heap[b]? = some o) : b < w.heap.size := Nat.lt_of_not_le fun hn => by rw [Array.getElem?_eq_none hn] at h; cases h
theorem GIt.next {P : Program} {w : World} {r G : Nat} {vs : List (Value × Value)} {sn : List Nat} (h : GIt w r G vs sn) (ty : TypeId) :
    ((∀ j, j < vs.length → j ∈ sn) ∧ (Instr.next (.pointer (some ⟨r, 0, none⟩)) false ty).run P w = .ok (.tuple #[.bool false]) w) ∨
    ∃ j p w', vs[j]? = some p ∧ j ∉ sn ∧ (Instr.next (.pointer (some ⟨r, 0, none⟩)) false ty).run P w = .ok (.tuple #[.bool true, p.1, p.2]) w' ∧ GIt w' r G vs (sn ++ [j]) ∧ (∀ k, k < w.heap.size → k ≠ r → w'.heap[k]? = w.heap[k]?) ∧ (∀ H, H ≤ r → H ≤ w.heap.size → Below H w w') ∧ w'.heap.size = w.heap.size ∧
      (Instr.entry (.pointer (some ⟨r, 0, none⟩))).run P w' = .ok (.tuple #[p.1, p.2]) w' := by
  have hold : ∀ x ∈ (gEnts 0 vs).toArray.toList, x.born < vs.length := fun x hx => by
    obtain ⟨j, p, hp, rfl⟩ := gEnts_mem (show x ∈ gEnts 0 vs from hx)
    exact (List.getElem?_eq_some_iff.1 hp).1
  have hne : r ≠ G := fun e => by have := h.r; rw [e, h.g] at this; cases this
  rcases run_next_at (P := P) w ty r G vs.length vs.length sn.toArray (gEnts 0 vs).toArray vs.length h.r h.g hold (Nat.le_refl _) with ⟨h0, hrun⟩ | ⟨e, he, w1, hal, hrun⟩
  · refine .inl ⟨fun j hj => ?_, hrun⟩
    obtain ⟨p, hp⟩ : ∃ p, vs[j]? = some p := ⟨vs[j], List.getElem?_eq_getElem hj⟩
    have hm : (⟨p.1, p.2, j⟩ : MapEntry) ∈ gEnts 0 vs := List.mem_of_getElem? (i := j) (by rw [gEnts_get, hp, Nat.zero_add]; rfl)
    by_cases hc : j ∈ sn
    · exact hc
    · have : (⟨p.1, p.2, j⟩ : MapEntry) ∈ leftOf (gEnts 0 vs).toArray sn.toArray := by
        unfold leftOf
        rw [Array.mem_filter]
        exact ⟨by simpa using hm, by simp [hc]⟩
      have h3 := Array.size_pos_of_mem this
      omega
  · have he2 : e ∈ leftOf (gEnts 0 vs).toArray sn.toArray := by simpa using he
    unfold leftOf at he2
    rw [Array.mem_filter] at he2
    obtain ⟨hm, hs⟩ := he2
    obtain ⟨j, p, hp, rfl⟩ := gEnts_mem (show e ∈ gEnts 0 vs by simpa using hm)
    have hj : j ∉ sn := by simpa using hs
    have hw1 : w1.heap = w.heap := by rcases hal with rfl | rfl <;> rfl
    have lr : r < w1.heap.size := by rw [hw1]; exact g_lt h.r
    have hmi : GIt (setBlock w1 r (.mapIter (some G) vs.length (sn.toArray.push j) vs.length)) r G vs (sn ++ [j]) := by
      refine ⟨?_, ?_, ?_, ?_⟩
      · rw [gs_at lr]; simp
      · rw [gs_heap (fun e => hne e.symm), hw1]; exact h.g
      · rw [List.nodup_append]
        exact ⟨h.d, by simp, fun a ha b hb e => by simp at hb; subst hb; subst e; exact hj ha⟩
      · intro i hi
        rcases List.mem_append.1 hi with hi | hi
        · exact h.l i hi
        · simp at hi; subst hi; exact (List.getElem?_eq_some_iff.1 hp).1
    have hB1 : Below w.heap.size w w1 := by rcases hal with rfl | rfl; exact Below.refl _ _; exact (Below.refl _ _).drew
    refine .inr ⟨j, p, _, hp, hj, hrun, hmi, fun k hk hkr => by rw [gs_heap hkr, hw1], fun H h1 h2 => (hB1.mono h2).trans (gs_below h1), by rw [gs_size, hw1], ?_⟩
    have := run_entry_at (P := P) (setBlock w1 r (.mapIter (some G) vs.length (sn.toArray.push j) vs.length)) r G vs.length sn.toArray (gEnts 0 vs).toArray vs.length ⟨p.1, p.2, j⟩ (by rw [gs_at lr]) hmi.g (by simpa using hm) (by simpa using gEnts_nodup vs)
    exact this
theorem GIt.but {w w' : World} {r G : Nat} {vs : List (Value × Value)} {sn : List Nat} (h : GIt w r G vs sn) (hr : w'.heap[r]? = w.heap[r]?) (hG : w'.heap[G]? = w.heap[G]?) : GIt w' r G vs sn := ⟨hr.trans h.r, hG.trans h.g, h.d, h.l⟩
theorem GIt.start {w : World} {G : Nat} {vs : List (Value × Value)} (hg : w.heap[G]? = some (gMap vs)) : GIt (w.alloc (.mapIter (some G) vs.length #[] vs.length)) w.heap.size G vs [] :=
  ⟨heap_alloc_new _ _, (((Below.refl w.heap.size w).alloc (Nat.le_refl _) _).block _ (g_lt hg)).trans hg, List.nodup_nil, fun j hj => by cases hj⟩
/-- How many have come, read off the iterator. -/
def gcnt (w : World) (r : Nat) : Nat := match w.heap[r]? with
  | some (.mapIter _ _ seen _) => seen.size
  | _ => 0
theorem GIt.cnt {w : World} {r G : Nat} {vs : List (Value × Value)} {sn : List Nat} (h : GIt w r G vs sn) : gcnt w r = sn.length := by
  unfold gcnt; rw [h.r]; simp
end Go.Proofs.YtbhnlfgccldmaaaGreat
/- Names of tables: what a node names, and what all below it name; package need's named. -/
namespace Go.Proofs.YtbhnlfgccldmaaaGreat
open Go.ChangeShapes Go.WideShapes Go.ChangeAt Go.RowKit
set_option linter.unusedVariables false
/-- A name: its kind, its two sizes, its direction. -/
structure Nam where
  k : Int
  n : Int
  m : Int
  d : Int
theorem Nam.eq_iff (a b : Nam) : a = b ↔ a.k = b.k ∧ a.n = b.n ∧ a.m = b.m ∧ a.d = b.d := by
  obtain ⟨k, n, m, d⟩ := a
  obtain ⟨k', n', m', d'⟩ := b
  simp
instance : DecidableEq Nam := fun a b => decidable_of_iff _ (Nam.eq_iff a b).symm
def Nam.val (x : Nam) : Value := .agg #[.int .i64 x.k, .int .i64 x.n, .int .i64 x.m, .int .i64 x.d]
def Nam.cells (x : Nam) : List Value := [.int .i64 x.k, .int .i64 x.n, .int .i64 x.m, .int .i64 x.d]
/-- What a node itself names. -/
def namedL (k n dir a : Int) : List Nam := if k = 1 ∨ k = 3 ∨ k = 4 then [⟨1, n, 0, dir⟩] else if k = 6 then [⟨3, n, 0, dir⟩] else if k = 7 then [⟨2, n, 0, dir⟩, ⟨4, n, a, dir⟩] else []
/-- The direction of what is below. -/
def under (k dir : Int) : Int := if k = 6 ∨ k = 7 then 0 else dir
/-- What the trees of a row name, a node ahead of those below it. -/
def Fo.names : Fo → Int → List Nam
  | .nil, _ => []
  | .cons k n ks r, dir => namedL k n dir (ks.n 0) ++ ks.names (under k dir) ++ r.names dir
/-- The same of one tree. -/
def namesN (k n : Int) (ks : Fo) (dir : Int) : List Nam := namedL k n dir (ks.n 0) ++ ks.names (under k dir)
theorem names_step (f : Fo) (i : Nat) (dir : Int) (h : i < f.len) : (f.drop i).names dir = namesN (f.k i) (f.n i) (f.kids i) dir ++ (f.drop (i + 1)).names dir := by
  rw [Fo.drop_at f i h, Fo.names, namesN]
theorem names_end (f : Fo) (dir : Int) : (f.drop f.len).names dir = [] := by rw [Fo.drop_len, Fo.names]
theorem named_len (k n dir a : Int) : (namedL k n dir a).length ≤ 2 := by unfold namedL; split <;> (try split) <;> (try split) <;> simp
theorem names_len : ∀ (f : Fo) (dir : Int), (f.names dir).length ≤ 2 * f.cnt
  | .nil, _ => by simp [Fo.names]
  | .cons k n ks r, dir => by
    have h1 := names_len ks (under k dir)
    have h2 := names_len r dir
    have h3 := named_len k n dir (ks.n 0)
    simp only [Fo.names, Fo.cnt, List.length_append]
    omega
/-- A slice's elements, as they are read: names. -/
def NRow (w : World) (lim : Nat) (a : Option Addr) (l : List Nam) : Prop := l = [] ∨ ∃ b o, a = some ⟨b, o, none⟩ ∧ b < lim ∧ ∀ i (hi : i < l.length), w.cell? ⟨b, o + i * 4, none⟩ = some (.int .i64 l[i].k) ∧ w.cell? ⟨b, o + i * 4 + 1, none⟩ = some (.int .i64 l[i].n) ∧ w.cell? ⟨b, o + i * 4 + 2, none⟩ = some (.int .i64 l[i].m) ∧ w.cell? ⟨b, o + i * 4 + 3, none⟩ = some (.int .i64 l[i].d)
theorem NRow.carry {w w' : World} {lim : Nat} {a : Option Addr} {l : List Nam} (h : NRow w lim a l) (hb : Below lim w w') : NRow w' lim a l := by
  rcases h with h | ⟨b, o, e, hlt, hc⟩
  · exact .inl h
  · refine .inr ⟨b, o, e, hlt, fun i hi => ?_⟩
    obtain ⟨h0, h1, h2, h3⟩ := hc i hi
    exact ⟨(hb.cell (p := ⟨b, _, none⟩) hlt).trans h0, (hb.cell (p := ⟨b, _, none⟩) hlt).trans h1, (hb.cell (p := ⟨b, _, none⟩) hlt).trans h2, (hb.cell (p := ⟨b, _, none⟩) hlt).trans h3⟩
theorem NRow.nought (w : World) (lim : Nat) (a : Option Addr) : NRow w lim a [] := .inl rfl
theorem NRow.get {w : World} {lim : Nat} {a : Option Addr} {l : List Nam} (h : NRow w lim a l) {i : Nat} (hi : i < l.length) : ∃ b o, a = some ⟨b, o, none⟩ ∧ b < lim ∧ w.cell? ⟨b, o + i * 4, none⟩ = some (.int .i64 l[i].k) ∧ w.cell? ⟨b, o + i * 4 + 1, none⟩ = some (.int .i64 l[i].n) ∧ w.cell? ⟨b, o + i * 4 + 2, none⟩ = some (.int .i64 l[i].m) ∧ w.cell? ⟨b, o + i * 4 + 3, none⟩ = some (.int .i64 l[i].d) := by
  rcases h with h | ⟨b, o, e, hlt, hc⟩
  · rw [h] at hi; simp at hi
  · exact ⟨b, o, e, hlt, hc i hi⟩
/-- The answer is a slice of names; nothing that was there has turned. -/
def GivesN (w : World) (l : List Nam) (e : Ending) (w' : World) : Prop := ∃ a c, e = .returned (.slice a l.length c) ∧ NRow w' w'.heap.size a l ∧ (∀ x, a = some x → w.heap.size ≤ x.block) ∧ Below w.heap.size w w'
theorem NRow.of1 {w : World} {g : Nat} {a b c d : Int} {T : TypeId} (h : w.heap[g]? = some (.cells #[.int .i64 a, .int .i64 b, .int .i64 c, .int .i64 d] T (0, 0))) : NRow w w.heap.size (some ⟨g, 0, none⟩) [⟨a, b, c, d⟩] := by
  have hg : g < w.heap.size := Nat.lt_of_not_le fun hn => by rw [Array.getElem?_eq_none hn] at h; cases h
  refine .inr ⟨g, 0, rfl, hg, fun i hi => ?_⟩
  obtain rfl : i = 0 := by simp at hi; omega
  refine ⟨?_, ?_, ?_, ?_⟩ <;> (rw [cell_of_row _ _ _ _ _ _ h]; rfl)
theorem NRow.of2 {w : World} {g : Nat} {a b c d a' b' c' d' : Int} {T : TypeId} (h : w.heap[g]? = some (.cells #[.int .i64 a, .int .i64 b, .int .i64 c, .int .i64 d, .int .i64 a', .int .i64 b', .int .i64 c', .int .i64 d'] T (0, 0))) : NRow w w.heap.size (some ⟨g, 0, none⟩) [⟨a, b, c, d⟩, ⟨a', b', c', d'⟩] := by
  have hg : g < w.heap.size := Nat.lt_of_not_le fun hn => by rw [Array.getElem?_eq_none hn] at h; cases h
  refine .inr ⟨g, 0, rfl, hg, fun i hi => ?_⟩
  have : i = 0 ∨ i = 1 := by simp at hi; omega
  rcases this with rfl | rfl <;> refine ⟨?_, ?_, ?_, ?_⟩ <;> (rw [cell_of_row _ _ _ _ _ _ h]; rfl)
set_option maxRecDepth 100000 in
set_option maxHeartbeats 2000000 in
theorem need_named (k n dir : Int) (v : Value) (ks : Fo) (lim : Nat) (W : World) (hK : Kids W lim v ks) (hl : lim ≤ W.heap.size) (h7 : k = 7 → 0 < ks.len) :
    Calls Tryz.prog 151 #[.agg #[.int .i64 k, .int .i64 n, v], .int .i64 dir] W (GivesN W (namedL k n dir (ks.n 0))) := by
  obtain ⟨p, m, c, rfl, hc1, hc2, HM⟩ := hK.shape
  obtain ⟨w0, hw0, c0, c1, c2, hB, hsz⟩ := box3 W k n (.slice p m c) 24
  by_cases h1 : k = 1 ∨ k = 3 ∨ k = 4
  · have E := Lib.hid (show namedL k n dir (ks.n 0) = [⟨1, n, 0, dir⟩] from if_pos h1)
    have hn := heap_alloc_new w0 (.cells #[.int .i64 1, .int .i64 n, .int .i64 0, .int .i64 dir] 82)
    have HB := Lib.hid (hB.alloc hB.size (.cells #[.int .i64 1, .int .i64 n, .int .i64 0, .int .i64 dir] 82))
    have HN := Lib.hid (NRow.of1 hn)
    rw [hsz] at HN
    clear hn hB hK
    subst hw0
    rcases h1 with rfl | rfl | rfl
    all_goals
      go_enter Tryz.func151, Tryz.ntmps151
      go_wp2_with fail
      go_ret
      exact ⟨_, _, by rw [E.out]; rfl, by rw [E.out]; exact HN.out, (fun x hx => by cases hx; exact Nat.le_succ _), HB.out⟩
  by_cases h2 : k = 6
  · subst h2
    have E := Lib.hid (show namedL 6 n dir (ks.n 0) = [⟨3, n, 0, dir⟩] from rfl)
    have hn := heap_alloc_new w0 (.cells #[.int .i64 3, .int .i64 n, .int .i64 0, .int .i64 dir] 82)
    have HB := Lib.hid (hB.alloc hB.size (.cells #[.int .i64 3, .int .i64 n, .int .i64 0, .int .i64 dir] 82))
    have HN := Lib.hid (NRow.of1 hn)
    rw [hsz] at HN
    clear hn hB hK
    subst hw0
    go_enter Tryz.func151, Tryz.ntmps151
    go_wp2_with fail
    go_ret
    exact ⟨_, _, by rw [E.out]; rfl, by rw [E.out]; exact HN.out, (fun x hx => by cases hx; exact Nat.le_succ _), HB.out⟩
  by_cases h3 : k = 7
  · subst h3
    have hm : 0 < m := by rw [HM.out]; exact h7 rfl
    obtain ⟨b, o, rfl, hb, hk0⟩ := hK.size hm
    have k0 : w0.cell? ⟨b, o + 1, none⟩ = some (.int .i64 (ks.n 0)) := by simpa using (hB.cell (p := ⟨b, _, none⟩) (by show b < W.heap.size; omega)).trans hk0
    have E := Lib.hid (show namedL 7 n dir (ks.n 0) = [⟨2, n, 0, dir⟩, ⟨4, n, ks.n 0, dir⟩] from rfl)
    generalize ks.n 0 = A at *
    clear hK hk0 h7
    go_enter Tryz.func151, Tryz.ntmps151
    go_wp2_with fail
    rw [← hw0]
    clear hw0
    have dm : decide (0 < m) = true := decide_eq_true hm
    have xw : W.heap.size < w0.heap.size := by omega
    have KA := Lib.hid (fun (w' : World) (hS : w'.cell? ⟨W.heap.size, 0, none⟩ = some (.int .i64 7) ∧ w'.cell? ⟨W.heap.size, 1, none⟩ = some (.int .i64 n) ∧ w'.cell? ⟨W.heap.size, 2, none⟩ = some (.slice (some ⟨b, o, none⟩) m c) ∧ w'.cell? ⟨b, o + 1, none⟩ = some (.int .i64 A) ∧ Below w0.heap.size w0 w') (ob : Obj) => (show (w'.alloc ob).cell? ⟨W.heap.size, 0, none⟩ = some (.int .i64 7) ∧ (w'.alloc ob).cell? ⟨W.heap.size, 1, none⟩ = some (.int .i64 n) ∧ (w'.alloc ob).cell? ⟨W.heap.size, 2, none⟩ = some (.slice (some ⟨b, o, none⟩) m c) ∧ (w'.alloc ob).cell? ⟨b, o + 1, none⟩ = some (.int .i64 A) ∧ Below w0.heap.size w0 (w'.alloc ob) from by
      have hb := (Below.refl w'.heap.size w').alloc (Nat.le_refl _) ob
      have hz := hS.2.2.2.2.size
      exact ⟨(hb.cell (p := ⟨W.heap.size, 0, none⟩) (by show W.heap.size < _; omega)).trans hS.1, (hb.cell (p := ⟨W.heap.size, 1, none⟩) (by show W.heap.size < _; omega)).trans hS.2.1, (hb.cell (p := ⟨W.heap.size, 2, none⟩) (by show W.heap.size < _; omega)).trans hS.2.2.1, (hb.cell (p := ⟨b, o + 1, none⟩) (by show b < _; omega)).trans hS.2.2.2.1, hS.2.2.2.2.trans (hb.mono hz)⟩))
    have HQ := Lib.hid (fun (w1 : World) (hb1 : Below w0.heap.size w0 w1) => (show NRow (w1.alloc (.cells #[.int .i64 2, .int .i64 n, .int .i64 0, .int .i64 dir, .int .i64 4, .int .i64 n, .int .i64 A, .int .i64 dir] 82)) (w1.alloc (.cells #[.int .i64 2, .int .i64 n, .int .i64 0, .int .i64 dir, .int .i64 4, .int .i64 n, .int .i64 A, .int .i64 dir] 82)).heap.size (some ⟨w1.heap.size, 0, none⟩) [⟨2, n, 0, dir⟩, ⟨4, n, A, dir⟩] ∧ Below W.heap.size W (w1.alloc (.cells #[.int .i64 2, .int .i64 n, .int .i64 0, .int .i64 dir, .int .i64 4, .int .i64 n, .int .i64 A, .int .i64 dir] 82)) from ⟨NRow.of2 (heap_alloc_new w1 _), hB.trans ((hb1.alloc hb1.size _).mono hB.size)⟩))
    have R0 := (Below.refl w0.heap.size w0).drew
    go_region_held3 (fun w' => w'.cell? ⟨W.heap.size, 0, none⟩ = some (.int .i64 7) ∧ w'.cell? ⟨W.heap.size, 1, none⟩ = some (.int .i64 n) ∧ w'.cell? ⟨W.heap.size, 2, none⟩ = some (.slice (some ⟨b, o, none⟩) m c) ∧ w'.cell? ⟨b, o + 1, none⟩ = some (.int .i64 A) ∧ Below w0.heap.size w0 w') (first | exact ⟨c0, c1, c2, k0, R0⟩ | assumption | exact KA.out _ (by assumption) _) (fail)
    obtain ⟨q1, q2⟩ := HQ.out w0 (Below.refl _ _)
    rw [hsz] at q1
    have HQ1 := Lib.hid q1
    have HQ2 := Lib.hid q2
    clear q1 q2 KA HQ R0
    go_wp2_with fail
    go_ret
    exact ⟨_, _, by rw [E.out]; rfl, by rw [E.out]; exact HQ1.out, (fun x hx => by cases hx; exact Nat.le_succ _), HQ2.out.drew⟩
  · have E := Lib.hid (show namedL k n dir (ks.n 0) = [] by unfold namedL; rw [if_neg h1, if_neg h2, if_neg h3])
    have e1 : (k == 1) = false := by simp; omega
    have e3 : (k == 3) = false := by simp; omega
    have e4 : (k == 4) = false := by simp; omega
    have e6 : (k == 6) = false := by simp; omega
    have e7 : (k == 7) = false := by simp; omega
    go_enter Tryz.func151, Tryz.ntmps151
    go_wp2_with fail
    rw [← hw0]
    go_ret
    exact ⟨_, _, by rw [E.out]; rfl, by rw [E.out]; exact NRow.nought _ _ _, (fun x hx => by cases hx), hB⟩
end Go.Proofs.YtbhnlfgccldmaaaGreat
