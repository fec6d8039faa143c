/- Put together by program (merge.py): Genr. -/
import Derived.Test.YtcfmiflhhjoofaaM34
import Derived.Test.YtcfmiflhhjoofaaM43
/- Package gen: Gen, Powers, Order; reference 9's Gen, Powers; the page's example. -/
namespace Go.Proofs.Ytcfmiflhhjoofaa
open Go.ChangeShapes Go.WideShapes Go.ChangeAt Go.RowKit
set_option linter.unusedVariables false
/-- The least number that makes all below q. -/
structure IsMk (q g : Nat) : Prop where
  one : 1 ≤ g
  lt : g < q
  ord : IsOrd q g (q - 1)
  least : ∀ h, 1 ≤ h → h < g → ¬ IsOrd q h (q - 1)
theorem IsMk.uniq {q a b : Nat} (h : IsMk q a) (k : IsMk q b) : a = b := by
  rcases Nat.lt_trichotomy a b with c | c | c
  · exact absurd h.ord (k.least a h.one c)
  · exact c
  · exact absurd k.ord (h.least b k.one c)
theorem gen_gen (q : Nat) (W : World) (hq : isP q) (hq2 : q ≤ 131072) :
    Calls Try.prog 67 #[.int .i64 (q : Int)] W fun e w' => ∃ g : Nat, e = .returned (.tuple #[.int .i64 (g : Int), .int .i64 0]) ∧ IsMk q g ∧ Below W.heap.size W w' := by
  obtain ⟨G, hG1, hG2, hG3⟩ := maker_ex hq
  have q0 := hq.1
  have GR := fun w => gen_right (q : Int) w
  rw [qrb_of hq hq2] at GR
  have GR := Lib.hid GR
  have GO := Lib.hid (fun g w (h : 1 ≤ g) (h2 : g < q) => gen_order q g w hq hq2 h h2)
  have HG := Lib.hid hG3
  clear hG3
  go_enter Try.func67, Try.ntmps67
  go_wp2_with fail
  refine (GR.out _).mono ?_
  rintro e w1 ⟨rfl, b1⟩
  go_wp2_with fail
  go_loopw [4] (fun x wr => ∃ g : Nat, x = .int .i64 g ∧ 1 ≤ g ∧ g ≤ G ∧ Hid (∀ h, 1 ≤ h → h < g → ¬ IsOrd q h (q - 1)) ∧ Below W.heap.size W wr) (fun x _ => G - (intOf x).toNat)
  case atStart => exact ⟨1, rfl, Nat.le_refl _, hG1, Lib.hid (fun h a b => by omega), b1⟩
  case round =>
    clear b1
    obtain ⟨g, rfl, g1, g2, HL, hB⟩ := hrel
    have GO1 := Lib.hid (fun w => GO.out g w g1 (by omega))
    have HE := Lib.hid (fun (h : g = G) => (show IsOrd q g (q - 1) by rw [h]; exact HG.out))
    go_wp2_with fail
    refine (GO1.out _).mono ?_
    rintro e w1 ⟨k, rfl, hk, hkd, b1⟩
    have hkq := Nat.le_of_dvd (by omega) hkd
    have hB := hB.trans (b1.mono hB.size); clear b1
    have HK := Lib.hid hk
    clear hk hkd
    by_cases h : k = q - 1
    · have hi : (k : Int) = (q : Int) - 1 := by omega
      have e1 : ((k : Int) != (q : Int) - 1) = false := by simp; omega
      have HM := Lib.hid (show IsMk q g from ⟨g1, by omega, by rw [← h]; exact HK.out, HL.out⟩)
      clear h hi
      go_wp2_with fail
      go_ret2
      exact ⟨g, rfl, HM.out, hB⟩
    · have e1 : ((k : Int) != (q : Int) - 1) = true := by simp; omega
      have hgG : g ≠ G := fun e => h (HK.out.uniq (HE.out e))
      have HL2 := Lib.hid (show ∀ h, 1 ≤ h → h < g + 1 → ¬ IsOrd q h (q - 1) from fun x x1 x2 => by
        by_cases e : x = g
        · rw [e]; exact fun ho => h (HK.out.uniq ho)
        · exact HL.out x x1 (by omega))
      go_wp2_with fail
      go_roundw
      case rel => exact ⟨g + 1, by go_num, by omega, by omega, HL2, hB⟩
      case measure => (first | (simp [intOf]; done) | (simp [intOf]; omega) | (simp only [intOf]; omega))
theorem gen_genno (n : Int) (W : World) (h : qrb n = false) :
    Calls Try.prog 67 #[.int .i64 n] W fun e w' => e = .returned (.tuple #[.int .i64 0, .int .i64 2]) ∧ Below W.heap.size W w' := by
  have GR := fun w => gen_right n w
  rw [h] at GR
  have GR := Lib.hid GR
  go_enter Try.func67, Try.ntmps67
  go_wp2_with fail
  refine (GR.out _).mono ?_
  rintro e w1 ⟨rfl, b1⟩
  go_wp2_with fail
  go_ret2
  exact ⟨rfl, b1⟩
theorem r9_gen (q : Nat) (W : World) (hq : isP q) (hq2 : q ≤ 131072) :
    Calls Try.prog 28 #[.int .i64 (q : Int)] W fun e w' => ∃ g : Nat, e = .returned (.int .i64 (g : Int)) ∧ IsMk q g ∧ W = w' := by
  obtain ⟨G, hG1, hG2, hG3⟩ := maker_ex hq
  have q0 := hq.1
  have GO := Lib.hid (fun g w (h : 1 ≤ g) (h2 : g < q) => r9_order q g w hq hq2 h h2)
  have HG := Lib.hid hG3
  clear hG3
  go_enter Try.func28, Try.ntmps28
  go_wp2_with fail
  go_loopw [3] (fun x wr => ∃ g : Nat, x = .int .i64 g ∧ 1 ≤ g ∧ g ≤ G ∧ Hid (∀ h, 1 ≤ h → h < g → ¬ IsOrd q h (q - 1)) ∧ wr = W) (fun x _ => G - (intOf x).toNat)
  case atStart => exact ⟨1, rfl, Nat.le_refl _, hG1, Lib.hid (fun h a b => by omega), rfl⟩
  case round =>
    obtain ⟨g, rfl, g1, g2, HL, rfl⟩ := hrel
    have GO1 := Lib.hid (fun w => GO.out g w g1 (by omega))
    have HE := Lib.hid (fun (h : g = G) => (show IsOrd q g (q - 1) by rw [h]; exact HG.out))
    go_wp2_with fail
    refine (GO1.out _).mono ?_
    rintro e w1 ⟨k, rfl, hk, hkq, hkd, rfl⟩
    have HK := Lib.hid hk
    clear hk hkd
    by_cases h : k = q - 1
    · have hi : (k : Int) = (q : Int) - 1 := by omega
      have e1 : ((k : Int) != (q : Int) - 1) = false := by simp; omega
      have HM := Lib.hid (show IsMk q g from ⟨g1, by omega, by rw [← h]; exact HK.out, HL.out⟩)
      clear h hi
      go_wp2_with fail
      go_ret
      exact ⟨g, rfl, HM.out, rfl⟩
    · have e1 : ((k : Int) != (q : Int) - 1) = true := by simp; omega
      have hgG : g ≠ G := fun e => h (HK.out.uniq (HE.out e))
      have HL2 := Lib.hid (show ∀ h, 1 ≤ h → h < g + 1 → ¬ IsOrd q h (q - 1) from fun x x1 x2 => by
        by_cases e : x = g
        · rw [e]; exact fun ho => h (HK.out.uniq ho)
        · exact HL.out x x1 (by omega))
      go_wp2_with fail
      go_roundw
      case rel => exact ⟨g + 1, by go_num, by omega, by omega, HL2, by first | trivial | rfl⟩
      case measure => (first | (simp [intOf]; done) | (simp [intOf]; omega) | (simp only [intOf]; omega))
/-- A number's powers modulo q. -/
def gpl (q g : Nat) : List Int := tab (q - 1) fun i => ((g ^ i % q : Nat) : Int)
theorem gpl_len (q g : Nat) : (gpl q g).length = q - 1 := tab_len _ _
theorem gpl_at (q g k : Nat) (h : k < q - 1) : (gpl q g).getD k 0 = ((g ^ k % q : Nat) : Int) := tab_at (q - 1) (fun i => ((g ^ i % q : Nat) : Int)) k h
theorem gpl_wf {q : Nat} (g : Nat) (h0 : 0 < q) (h : q ≤ 131072) : ∀ z ∈ gpl q g, (Lit.int .i64 z).wf = true := by
  intro z hz
  unfold gpl tab at hz
  obtain ⟨k, hk, rfl⟩ := List.mem_map.1 hz
  have := Nat.mod_lt (g ^ k) h0
  exact WalkArith.wf_i64 ⟨by omega, by omega⟩
set_option maxRecDepth 100000 in
theorem gen_powers (q : Nat) (W : World) (hq : isP q) (hq2 : q ≤ 131072) :
    Calls Try.prog 57 #[.int .i64 (q : Int)] W fun e w' => ∃ g, IsMk q g ∧ GivesIOk W (q - 1) (gpl q g) e w' := by
  have q0 := hq.1
  have GG := Lib.hid (fun w => gen_gen q w hq hq2)
  obtain ⟨n, hn⟩ : ∃ n, q - 1 = n := ⟨_, rfl⟩
  have hni : (q : Int) - 1 = (n : Int) := by omega
  have hmk := make_i64 n (by omega)
  have q1 : ((q : Int) == 0) = false := by simp; omega
  have q2 : ¬ ((q : Int) = 0) := by omega
  have q3 : ¬ (q = 0) := by omega
  go_enter Try.func57, Try.ntmps57
  go_wp2_with fail
  refine (GG.out _).mono ?_
  rintro e w1 ⟨g, rfl, hg, b1⟩
  have hgq := hg.lt
  have HG := Lib.hid hg
  have ML := Lib.hid (show (gpl q g).length = n by rw [gpl_len, hn])
  have MA := Lib.hid (fun k (hk : k < n) => gpl_at q g k (by omega))
  have MW := Lib.hid (gpl_wf g (by omega) hq2)
  have F0 := Lib.hid (FillingI.start w1 3 (gpl q g) n)
  have hzz := b1.size
  have hB0 := b1.alloc hzz (.cells (Array.replicate n (.int .i64 0)) 3)
  have QF := Lib.hid (fun e w' (h : GivesIOk W n (gpl q g) e w') => (show ∃ g, IsMk q g ∧ GivesIOk W (q - 1) (gpl q g) e w' from ⟨g, HG.out, by rw [hn]; exact h⟩))
  have P0 := Lib.hid (show g ^ 0 % q = 1 by rw [Nat.pow_zero]; exact Nat.mod_eq_of_lt (by omega))
  have PS := Lib.hid (fun k p (h : g ^ k % q = p) => (show g ^ (k + 1) % q = p * g % q by rw [Nat.pow_succ, Nat.mul_mod, h, Nat.mod_eq_of_lt hgq]))
  clear hg b1
  generalize gpl q g = ys at *
  go_wp2_with fail
  obtain ⟨B, hBz⟩ : ∃ B, w1.heap.size = B := ⟨_, rfl⟩
  rw [hBz] at F0 hzz ⊢
  generalize w1.alloc (.cells (Array.replicate n (.int .i64 0)) 3) = w3 at *
  go_loopw [7, 22] (fun x i wr => ∃ k p : Nat, k ≤ n ∧ i = .int .i64 k ∧ x = .int .i64 p ∧ p < q ∧ Hid (g ^ k % q = p) ∧ Hid (FillingI wr B 3 ys k n) ∧ Below W.heap.size W wr) (fun _ i _ => n - (intOf i).toNat)
  case atStart => exact ⟨0, 1, Nat.zero_le _, rfl, rfl, by omega, P0, F0, hB0⟩
  case round =>
    clear F0 hB0
    obtain ⟨k, p, hk, rfl, rfl, hp, HP, HF, hB⟩ := hrel
    have hsz := HF.out.lt
    by_cases hlt : k < n
    · have MA1 := MA.out k hlt
      rw [HP.out] at MA1
      have hst := Lib.hid (HF.out.step hlt ML.out MA1)
      obtain ⟨u, hu⟩ := HF.out.cell hlt ML.out
      have hfr := HF.out.free k
      have hpg : p * g ≤ 131072 * 131072 := Nat.mul_le_mul (by omega) (by omega)
      have PS1 := Lib.hid (PS.out k p HP.out)
      obtain ⟨X, hX⟩ : ∃ X, p * g = X := ⟨_, rfl⟩
      rw [hX] at PS1
      have w1' : IntKind.i64.wrap ((p : Int) * (g : Int)) = (X : Int) := by
        rw [(Int.natCast_mul p g).symm, hX]; exact IntWalk.i64_in _ (by omega)
      have m1 := natmod X q
      have m1' := natmod' X q
      have hX1 : X % q < q := Nat.mod_lt _ (by omega)
      generalize X % q = x at *
      clear hX MA1
      go_wp2_with fail
      go_roundw
      case rel => exact ⟨k + 1, x, by omega, by go_num, by go_num, hX1, PS1, hst, hB.setCell hzz _⟩
      case measure => (first | (simp [intOf]; done) | (simp [intOf]; omega) | (simp only [intOf]; omega))
    · obtain rfl : k = n := by omega
      go_wp2_with fail
      go_ret2
      exact QF.out _ _ ⟨_, _, rfl, RowI.of_at (HF.out.done ML.out) MW.out ML.out (by omega), hB⟩
theorem gen_powersno (n : Int) (W : World) (h : qrb n = false) :
    Calls Try.prog 57 #[.int .i64 n] W fun e w' => e = .returned (.tuple #[.slice none 0 0, .int .i64 2]) ∧ Below W.heap.size W w' := by
  have GG := Lib.hid (fun w => gen_genno n w h)
  go_enter Try.func57, Try.ntmps57
  go_wp2_with fail
  refine (GG.out _).mono ?_
  rintro e w1 ⟨rfl, b1⟩
  go_wp2_with fail
  go_ret2
  exact ⟨rfl, b1⟩
theorem mk7 : IsMk 7 3 := by
  refine ⟨by omega, by omega, ⟨by omega, by decide, ?_⟩, ?_⟩
  · intro j j1 j2
    have : j = 1 ∨ j = 2 ∨ j = 3 ∨ j = 4 ∨ j = 5 := by omega
    rcases this with rfl | rfl | rfl | rfl | rfl <;> decide
  · intro h h1 h2 ho
    have : h = 1 ∨ h = 2 := by omega
    rcases this with rfl | rfl
    · exact ho.least 1 (by omega) (by omega) (by decide)
    · exact ho.least 3 (by omega) (by omega) (by decide)
theorem p7 : isP 7 := (isPb_iff 7).1 (by decide)
theorem rowi6b (w : World) (a b c d e f : Int) (hw : ∀ z ∈ [a, b, c, d, e, f], (Lit.int .i64 z).wf = true) : RowI (w.alloc (.cells #[.int .i64 a, .int .i64 b, .int .i64 c, .int .i64 d, .int .i64 e, .int .i64 f] 3)) (some ⟨w.heap.size, 0, none⟩) 6 [a, b, c, d, e, f] :=
  RowI.of_at (by unfold RowAtI; rw [heap_alloc_new]; rfl) hw rfl (by omega)
end Go.Proofs.Ytcfmiflhhjoofaa
