/- Put together by program (merge.py): Tab6. -/
import Derived.Test.YtcfmiflhhjoofaaM45
/- Package table: Make. -/
namespace Go.Proofs.Ytcfmiflhhjoofaa
open Go.ChangeShapes Go.WideShapes Go.ChangeAt Go.RowKit
set_option linter.unusedVariables false
open rootTells
/-- The table of a name: its room and its numbers. -/
def TabOf (k : Int) (N M : Nat) (d : Int) (R : Nat) (ys : List Int) : Prop :=
  (k = 1 ∧ R = N ∧ ys = powl (rdir N d) N) ∨ (k = 2 ∧ R = N ∧ ys = rowc (rdir N (1 - d)) N N) ∨
  (k = 3 ∧ R = N - 1 ∧ ∃ g, IsMk N g ∧ ys = horl (rdir (N - 1 : Nat) 0) (rdl N d g) (N - 1)) ∨
  (k = 4 ∧ R = M ∧ ys = horl (rdir M 0) (rowc (rdir N d) N (2 * N - 1) ++ List.replicate (M - (2 * N - 1)) 0) M)
theorem TabOf.uniq {k : Int} {N M : Nat} {d : Int} {R R' : Nat} {ys zs : List Int} (h : TabOf k N M d R ys) (g : TabOf k N M d R' zs) : R = R' ∧ ys = zs := by
  rcases h with ⟨a, b, c⟩ | ⟨a, b, c⟩ | ⟨a, b, x, c, e⟩ | ⟨a, b, c⟩ <;> rcases g with ⟨a', b', c'⟩ | ⟨a', b', c'⟩ | ⟨a', b', x', c', e'⟩ | ⟨a', b', c'⟩ <;> first | omega | skip
  · exact ⟨by omega, by rw [c, c']⟩
  · exact ⟨by omega, by rw [c, c']⟩
  · obtain rfl := c.uniq c'
    exact ⟨by omega, by rw [e, e']⟩
  · exact ⟨by omega, by rw [c, c']⟩
theorem rader_pow : ∀ q : Nat, q < 141 → hasb (q : Int) = true → isPb q = true → 3 ≤ q → q = 3 ∨ q = 5 ∨ q = 17 := by decide +kernel
theorem rader_two {q : Nat} (h1 : q ≤ 140) (h2 : hasb q = true) (h3 : isP q) (h4 : 3 ≤ q) : ∃ a, q - 1 = 2 ^ a := by
  rcases rader_pow q (by omega) h2 ((isPb_iff q).2 h3) h4 with rfl | rfl | rfl
  · exact ⟨1, rfl⟩
  · exact ⟨2, rfl⟩
  · exact ⟨4, rfl⟩
theorem two_small {M a : Nat} (h : M = 2 ^ a) (h1 : M ≤ 140) : M ≤ 130 := by
  by_cases h8 : a < 8
  · have := Nat.pow_le_pow_right (show 0 < 2 by omega) (show a ≤ 7 by omega)
    omega
  · have := Nat.pow_le_pow_right (show 0 < 2 by omega) (show 8 ≤ a by omega)
    omega
/-- What a small right name is. -/
inductive Nm (k : Int) (N : Nat) (m d : Int) : Prop
  | pows (h : k = 1) (hm : m = 0)
  | chirp (h : k = 2) (hm : m = 0)
  | rader (h : k = 3) (hm : m = 0) (hq : isP N) (a : Nat) (hM : N - 1 = 2 ^ a) (hM2 : N - 1 ≤ 130)
  | blue (h : k = 4) (M a : Nat) (hm : m = M) (h2 : 2 ≤ N) (hM : M = 2 ^ a) (hM2 : M ≤ 130) (hl : 2 * N - 1 ≤ M)
theorem nm_of {k n m d : Int} (h : rightb k n m d = true) (h1 : n ≤ 140) (h2 : roomi k n m ≤ 140) : ∃ N : Nat, n = N ∧ hasb N = true ∧ (d = 0 ∨ d = 1) ∧ 1 ≤ N ∧ Nm k N m d := by
  have hh : hasb n = true := by
    cases hh : hasb n with
    | true => rfl
    | false => rw [rightb_has hh] at h; cases h
  have hd : d = 0 ∨ d = 1 := Classical.byContradiction fun hd => by rw [rightb_dir hd] at h; cases h
  obtain ⟨a, b, _⟩ := hasb_dvd hh
  obtain ⟨N, rfl⟩ : ∃ N : Nat, n = N := ⟨n.toNat, by omega⟩
  refine ⟨N, rfl, hh, hd, by omega, ?_⟩
  by_cases k12 : k = 1 ∨ k = 2
  · rw [rightb_12 hh hd k12] at h
    have hm := of_decide_eq_true h
    rcases k12 with hk | hk
    · exact .pows hk hm
    · exact .chirp hk hm
  by_cases k3 : k = 3
  · subst k3
    rw [rightb_3 hh hd, Bool.and_eq_true] at h
    obtain ⟨hm, h3⟩ := of_decide_eq_true h.1
    obtain ⟨q, e, hq, _⟩ := prb_yes h.2
    obtain rfl : N = q := by omega
    obtain ⟨x, hx⟩ := rader_two (by omega) hh hq (by omega)
    exact .rader rfl hm hq x hx (by have := two_small hx (by omega); omega)
  by_cases k4 : k = 4
  · subst k4
    rw [rightb_4 hh hd, Bool.and_eq_true, Bool.and_eq_true] at h
    obtain ⟨⟨h3, h4⟩, h5⟩ := h
    have h3 := of_decide_eq_true h3
    have h5 := of_decide_eq_true h5
    unfold hasp at h4
    rw [Bool.and_eq_true] at h4
    obtain ⟨m1, x, hx⟩ := pwb_isp h4.2
    have hr : roomi 4 N m = m := by unfold roomi; rw [if_neg (by omega), if_pos rfl]
    exact .blue rfl m.toNat x (by omega) (by omega) hx (two_small hx (by omega)) (by omega)
  · rw [rightb_no ⟨k12, k3, k4⟩] at h; cases h
theorem nm_room {k : Int} {N : Nat} {m d : Int} (h : Nm k N m d) (h1 : 1 ≤ N) {R : Nat} {M : Nat} (hM : m = M) {ys : List Int} (ht : TabOf k N M d R ys) : roomi k N m = R := by
  unfold roomi
  rcases ht with ⟨a, b, c⟩ | ⟨a, b, c⟩ | ⟨a, b, x, c, e⟩ | ⟨a, b, c⟩
  · rw [if_neg (by omega), if_neg (by omega), b]
  · rw [if_neg (by omega), if_neg (by omega), b]
  · rw [if_pos a]; omega
  · rw [if_neg (by omega), if_pos a]; omega
set_option maxRecDepth 100000 in
theorem tab_by (k n m d : Int) (W : World) (F : Nat) (hk : (k = 2 ∧ F = 40) ∨ (k = 3 ∧ F = 41) ∨ (k = 4 ∧ F = 42) ∨ (k = 1 ∧ F = 43)) :
    Calls Try.prog 23 #[.agg #[.int .i64 k, .int .i64 n, .int .i64 m, .int .i64 d]] W fun e w' => e = .returned (.func (.func F) #[.agg #[.int .i64 k, .int .i64 n, .int .i64 m, .int .i64 d]] #[]) ∧ Below W.heap.size W w' := by
  have hB := fun o => (Below.refl W.heap.size W).alloc (Nat.le_refl _) o
  rcases hk with ⟨rfl, rfl⟩ | ⟨rfl, rfl⟩ | ⟨rfl, rfl⟩ | ⟨rfl, rfl⟩
  all_goals
    go_enter Try.func23, Try.ntmps23
    go_wp2_with fail
    go_ret
    exact ⟨rfl, hB _⟩
/-- The answer is a row of R numbers, and T of it. -/
def Tabs (T : Nat → List Int → Prop) (w : World) (e : Ending) (w' : World) : Prop := ∃ R ys, T R ys ∧ GivesOk w R ys e w'
set_option maxRecDepth 100000 in
theorem make_powers (n m d : Int) (W : World) (T : Nat → List Int → Prop)
    (rg : ∀ w, Calls Try.prog 15 #[.agg #[.int .i64 1, .int .i64 n, .int .i64 m, .int .i64 d]] w fun e w' => e = .returned (.bool true) ∧ Below w.heap.size w w')
    (hc : ∀ w, Calls Try.prog 43 #[.agg #[.int .i64 1, .int .i64 n, .int .i64 m, .int .i64 d]] w (Tabs T w)) :
    Calls Try.prog 7 #[.agg #[.int .i64 1, .int .i64 n, .int .i64 m, .int .i64 d]] W (Tabs T W) := by
  have hB := (Below.refl W.heap.size W).alloc (Nat.le_refl _) (.cells #[.int .i64 1, .int .i64 n, .int .i64 m, .int .i64 d] 23)
  have RG := Lib.hid rg
  have HC := Lib.hid hc
  have BY := Lib.hid (fun w => tab_by 1 n m d w 43 (.inr (.inr (.inr ⟨rfl, rfl⟩))))
  clear rg hc
  go_enter Try.func7, Try.ntmps7
  go_wp2_with fail
  refine (RG.out _).mono ?_
  rintro e w1 ⟨rfl, b1⟩
  obtain ⟨c0, c1, c2, c3⟩ := cells4 b1
  have hB := hB.trans (b1.mono hB.size)
  clear b1
  go_wp2_with fail
  refine (BY.out _).mono ?_
  rintro e w2 ⟨rfl, b1⟩
  have hB := hB.trans (b1.mono hB.size)
  clear b1 c0 c1 c2 c3
  go_wp2_with fail
  refine (HC.out _).mono ?_
  rintro e w3 ⟨R, ys, ht, p, c, rfl, hr, b1⟩
  have HT := Lib.hid ht
  have HR := Lib.hid hr
  have hB := hB.trans (b1.mono hB.size)
  clear b1 ht hr
  go_wp2_with fail
  go_ret2
  exact ⟨R, ys, HT.out, _, _, rfl, HR.out, hB⟩
set_option maxRecDepth 100000 in
theorem make_chirp (n m d : Int) (W : World) (T : Nat → List Int → Prop)
    (rg : ∀ w, Calls Try.prog 15 #[.agg #[.int .i64 2, .int .i64 n, .int .i64 m, .int .i64 d]] w fun e w' => e = .returned (.bool true) ∧ Below w.heap.size w w')
    (hc : ∀ w, Calls Try.prog 40 #[.agg #[.int .i64 2, .int .i64 n, .int .i64 m, .int .i64 d]] w (Tabs T w)) :
    Calls Try.prog 7 #[.agg #[.int .i64 2, .int .i64 n, .int .i64 m, .int .i64 d]] W (Tabs T W) := by
  have hB := (Below.refl W.heap.size W).alloc (Nat.le_refl _) (.cells #[.int .i64 2, .int .i64 n, .int .i64 m, .int .i64 d] 23)
  have RG := Lib.hid rg
  have HC := Lib.hid hc
  have BY := Lib.hid (fun w => tab_by 2 n m d w 40 (.inl ⟨rfl, rfl⟩))
  clear rg hc
  go_enter Try.func7, Try.ntmps7
  go_wp2_with fail
  refine (RG.out _).mono ?_
  rintro e w1 ⟨rfl, b1⟩
  obtain ⟨c0, c1, c2, c3⟩ := cells4 b1
  have hB := hB.trans (b1.mono hB.size)
  clear b1
  go_wp2_with fail
  refine (BY.out _).mono ?_
  rintro e w2 ⟨rfl, b1⟩
  have hB := hB.trans (b1.mono hB.size)
  clear b1 c0 c1 c2 c3
  go_wp2_with fail
  refine (HC.out _).mono ?_
  rintro e w3 ⟨R, ys, ht, p, c, rfl, hr, b1⟩
  have HT := Lib.hid ht
  have HR := Lib.hid hr
  have hB := hB.trans (b1.mono hB.size)
  clear b1 ht hr
  go_wp2_with fail
  go_ret2
  exact ⟨R, ys, HT.out, _, _, rfl, HR.out, hB⟩
set_option maxRecDepth 100000 in
theorem make_rader (n m d : Int) (W : World) (T : Nat → List Int → Prop)
    (rg : ∀ w, Calls Try.prog 15 #[.agg #[.int .i64 3, .int .i64 n, .int .i64 m, .int .i64 d]] w fun e w' => e = .returned (.bool true) ∧ Below w.heap.size w w')
    (hc : ∀ w, Calls Try.prog 41 #[.agg #[.int .i64 3, .int .i64 n, .int .i64 m, .int .i64 d]] w (Tabs T w)) :
    Calls Try.prog 7 #[.agg #[.int .i64 3, .int .i64 n, .int .i64 m, .int .i64 d]] W (Tabs T W) := by
  have hB := (Below.refl W.heap.size W).alloc (Nat.le_refl _) (.cells #[.int .i64 3, .int .i64 n, .int .i64 m, .int .i64 d] 23)
  have RG := Lib.hid rg
  have HC := Lib.hid hc
  have BY := Lib.hid (fun w => tab_by 3 n m d w 41 (.inr (.inl ⟨rfl, rfl⟩)))
  clear rg hc
  go_enter Try.func7, Try.ntmps7
  go_wp2_with fail
  refine (RG.out _).mono ?_
  rintro e w1 ⟨rfl, b1⟩
  obtain ⟨c0, c1, c2, c3⟩ := cells4 b1
  have hB := hB.trans (b1.mono hB.size)
  clear b1
  go_wp2_with fail
  refine (BY.out _).mono ?_
  rintro e w2 ⟨rfl, b1⟩
  have hB := hB.trans (b1.mono hB.size)
  clear b1 c0 c1 c2 c3
  go_wp2_with fail
  refine (HC.out _).mono ?_
  rintro e w3 ⟨R, ys, ht, p, c, rfl, hr, b1⟩
  have HT := Lib.hid ht
  have HR := Lib.hid hr
  have hB := hB.trans (b1.mono hB.size)
  clear b1 ht hr
  go_wp2_with fail
  go_ret2
  exact ⟨R, ys, HT.out, _, _, rfl, HR.out, hB⟩
set_option maxRecDepth 100000 in
theorem make_blue (n m d : Int) (W : World) (T : Nat → List Int → Prop)
    (rg : ∀ w, Calls Try.prog 15 #[.agg #[.int .i64 4, .int .i64 n, .int .i64 m, .int .i64 d]] w fun e w' => e = .returned (.bool true) ∧ Below w.heap.size w w')
    (hc : ∀ w, Calls Try.prog 42 #[.agg #[.int .i64 4, .int .i64 n, .int .i64 m, .int .i64 d]] w (Tabs T w)) :
    Calls Try.prog 7 #[.agg #[.int .i64 4, .int .i64 n, .int .i64 m, .int .i64 d]] W (Tabs T W) := by
  have hB := (Below.refl W.heap.size W).alloc (Nat.le_refl _) (.cells #[.int .i64 4, .int .i64 n, .int .i64 m, .int .i64 d] 23)
  have RG := Lib.hid rg
  have HC := Lib.hid hc
  have BY := Lib.hid (fun w => tab_by 4 n m d w 42 (.inr (.inr (.inl ⟨rfl, rfl⟩))))
  clear rg hc
  go_enter Try.func7, Try.ntmps7
  go_wp2_with fail
  refine (RG.out _).mono ?_
  rintro e w1 ⟨rfl, b1⟩
  obtain ⟨c0, c1, c2, c3⟩ := cells4 b1
  have hB := hB.trans (b1.mono hB.size)
  clear b1
  go_wp2_with fail
  refine (BY.out _).mono ?_
  rintro e w2 ⟨rfl, b1⟩
  have hB := hB.trans (b1.mono hB.size)
  clear b1 c0 c1 c2 c3
  go_wp2_with fail
  refine (HC.out _).mono ?_
  rintro e w3 ⟨R, ys, ht, p, c, rfl, hr, b1⟩
  have HT := Lib.hid ht
  have HR := Lib.hid hr
  have hB := hB.trans (b1.mono hB.size)
  clear b1 ht hr
  go_wp2_with fail
  go_ret2
  exact ⟨R, ys, HT.out, _, _, rfl, HR.out, hB⟩
/-- What is made of a small right name. -/
theorem table_make (k m d : Int) (N : Nat) (W : World) (h : rightb k N m d = true) (hh : hasb N = true) (hd : d = 0 ∨ d = 1) (hm : Nm k N m d) :
    Calls Try.prog 7 #[.agg #[.int .i64 k, .int .i64 N, .int .i64 m, .int .i64 d]] W (Tabs (TabOf k N m.toNat d) W) := by
  obtain ⟨n1, n2, _⟩ := hasb_dvd hh
  have RG := fun w => need_right k N m d w (by omega)
  rw [h] at RG
  rcases hm with ⟨rfl, rfl⟩ | ⟨rfl, rfl⟩ | ⟨rfl, rfl, hq, a, hM, hM2⟩ | ⟨rfl, M, a, rfl, h2', hM, hM2, hl⟩
  · exact make_powers N 0 d W _ RG (fun w => (tab_powers 1 0 d N w hh hd).mono fun e w' g => ⟨_, _, .inl ⟨rfl, rfl, rfl⟩, g⟩)
  · exact make_chirp N 0 d W _ RG (fun w => (tab_chirp 2 0 d N w hh hd).mono fun e w' g => ⟨_, _, .inr (.inl ⟨rfl, rfl, rfl⟩), g⟩)
  · exact make_rader N 0 d W _ RG (fun w => (tab_rader 3 0 d N a w hq hh hd hM hM2).mono fun e w' ⟨g, hg, hx⟩ => ⟨_, _, .inr (.inr (.inl ⟨rfl, rfl, g, hg, rfl⟩)), hx⟩)
  · exact make_blue N M d W _ RG (fun w => (tab_blue 4 d N M a w hh hd hM hM2 hl).mono fun e w' g => ⟨_, _, .inr (.inr (.inr ⟨rfl, rfl, rfl⟩)), g⟩)
theorem table_makeno (k n m d : Int) (W : World) (wn : -9223372036854775808 ≤ n ∧ n ≤ 9223372036854775807) (h : rightb k n m d = false) :
    Calls Try.prog 7 #[.agg #[.int .i64 k, .int .i64 n, .int .i64 m, .int .i64 d]] W fun e w' => e = .returned (.tuple #[.slice none 0 0, .int .i64 2]) ∧ Below W.heap.size W w' := by
  have hB := (Below.refl W.heap.size W).alloc (Nat.le_refl _) (.cells #[.int .i64 k, .int .i64 n, .int .i64 m, .int .i64 d] 23)
  have RG := fun w => need_right k n m d w wn
  rw [h] at RG
  have RG := Lib.hid RG
  go_enter Try.func7, Try.ntmps7
  go_wp2_with fail
  refine (RG.out _).mono ?_
  rintro e w1 ⟨rfl, b1⟩
  go_wp2_with fail
  go_ret2
  exact ⟨rfl, hB.trans (b1.mono hB.size)⟩
end Go.Proofs.Ytcfmiflhhjoofaa
