/- Package fact: Gcd; the page's example of layer 3. -/
import Derived.Test.YtmeaakchnellfaaBase
import Derived.WalkMore
import Derived.Handy
import Derived.Deep.AppendLies
namespace Go.Proofs.Ytmeaakchnellfaa
open Go.ChangeShapes Go.WideShapes Go.ChangeAt Go.RowKit
set_option linter.unusedVariables false
theorem info_pw : (Try.prog.info? 31).map (fun i => (i.zero.map (fun z => z.cells.size), i.size, i.bytes)) = some (some 2, 2, 16) := by kernel_rfl
theorem append_pw {ops : Array Oper} {rest : List Oper} {o : Oper} {a : Act} {Q : Exit → Act → World → Prop} {W : World} {B : Nat} {v : Value} {n : Nat} {xs : List Value} {p q : Int} (hgd : o.guard = none) (s x : Operand)
    (ho : o.op = .call { callee := .builtin .append, args := #[s, x], argTypes := #[22, 22] }) (hs : a.eval s = v) (hown : W.ownsRow B 31 2 v n xs) (hx : a.eval x = .slice (some ⟨W.heap.size, 0, none⟩) 1 1) (hB : B ≤ W.heap.size) (hn : n < 1000)
    (h : ∀ v' w', w'.ownsRow B 31 2 v' (n + 1) (xs ++ [.int .i64 p, .int .i64 q]) → Below B W w' → wpList Try.prog ops Q rest (a.put o.dst v') w') : wpList Try.prog ops Q (o :: rest) a (W.alloc (.cells #[.int .i64 p, .int .i64 q] 31)) := by
  obtain ⟨i0, hi⟩ : ∃ i, Try.prog.info? 31 = some i := by
    cases h0 : Try.prog.info? 31 with
    | none => have := info_pw; rw [h0] at this; cases this
    | some i => exact ⟨i, rfl⟩
  have h1 := info_pw
  rw [hi] at h1
  simp only [Option.map_some, Option.some.injEq, Prod.mk.injEq] at h1
  obtain ⟨hz, hsz, hby⟩ := h1
  obtain ⟨z, hz1, hz2⟩ : ∃ z, i0.zero = some z ∧ z.cells.size = 2 := by
    cases h0 : i0.zero with
    | none => rw [h0] at hz; cases hz
    | some z => rw [h0] at hz; simp at hz; exact ⟨z, rfl, hz⟩
  refine wpList_append_lies _ hgd s x 22 ho B 31 i0 z 2 16 Try.underlying22 hi hz1 hsz hby hz2 (by decide) v n xs hs (World.ownsRow.alloc hown _) ⟨W.heap.size, 0, none⟩ 1 1 [.int .i64 p, .int .i64 q] hx rfl ?_ ?_ (by decide) ?_ ?_ (by simp; omega) _ rfl ?_
  · intro j u hj
    have := World.news_of_block (heap_alloc_new W (.cells #[.int .i64 p, .int .i64 q] 31)) j u hj
    exact this
  · intro u hu
    simp at hu
    rcases hu with rfl | rfl <;> rfl
  · unfold maxLen; omega
  · omega
  · intro g cap w' h2 h3 _ _
    exact h _ w' h2 (((Below.refl _ _).alloc hB _).grown h3 (by simp; omega) (fun i hi => (World.ownsRow.lt hown i hi).1))
theorem within12 (w : World) : Calls Try.prog 49 #[.int .i64 12] w fun e w' => e = .returned (.bool true) ∧ w = w' := by
  go_enter Try.func49, Try.ntmps49
  go_wp2
  go_ret
  exact ⟨rfl, rfl⟩
set_option maxRecDepth 100000 in
set_option maxHeartbeats 4000000 in
theorem f12 (w : World) : Calls Try.prog 12 #[.int .i64 12] w fun e w' => ∃ v, e = .returned (.tuple #[v, .int .i64 0]) ∧ w'.ownsRow w.heap.size 31 2 v 2 [.int .i64 2, .int .i64 2, .int .i64 3, .int .i64 1] ∧ Below w.heap.size w w' := by
  go_enter Try.func12, Try.ntmps12
  go_wp2_with fail
  go_step3
  go_wp2_with (go_at_call 49; (with_reducible refine (within12 _).mono ?_); rintro e w' ⟨rfl, rfl⟩)
  go_step3
  go_wp2_with fail
  refine wp_loop_rounds 3 ?_
  rw [rounds_succ]
  go_wp2_with fail
  refine wp_loop_rounds 2 ?_
  rw [rounds_succ]
  go_wp2_with fail
  refine wp_loop_rounds 3 ?_
  rw [rounds_succ]
  go_wp2_with fail
  rw [rounds_succ]
  go_wp2_with fail
  rw [rounds_succ]
  have HO0 := World.ownsRow_nil w w.heap.size 31 2
  go_wp2_with (at_builtin; refine append_pw rfl _ _ rfl rfl HO0 rfl (Nat.le_refl _) (by decide) ?_; intro v1 w1 hO1 hb1)
  rw [rounds_succ]
  go_wp2_with fail
  refine wp_loop_rounds 2 ?_
  rw [rounds_succ]
  go_wp2_with (at_builtin; refine append_pw rfl _ _ rfl rfl hO1 rfl hb1.size (by decide) ?_; intro v2 w2 hO2 hb2)
  rw [Exit.noGoto_ret]
  go_ret2
  exact ⟨_, rfl, hO2, hb1.trans hb2⟩
theorem live3 (w : World) : Calls Try.prog 16 #[] w fun e w' => e = .returned (.bool true) ∧ Below w.heap.size w w' := by
  have F := Lib.hid (f12 w)
  go_enter Try.func16, Try.ntmps16
  go_wp2_with fail
  refine F.out.mono ?_
  rintro e w1 ⟨v, rfl, hO, b1⟩
  obtain ⟨g, cap, rfl, h1, h2⟩ := World.ownsRow.form hO (by decide)
  have c0 : w1.cell? ⟨g, 0, none⟩ = some (.int .i64 2) := World.ownsRow.cellAt hO 0 (by decide)
  have c1 : w1.cell? ⟨g, 1, none⟩ = some (.int .i64 2) := World.ownsRow.cellAt hO 1 (by decide)
  have c2 : w1.cell? ⟨g, 2, none⟩ = some (.int .i64 3) := World.ownsRow.cellAt hO 2 (by decide)
  have c3 : w1.cell? ⟨g, 3, none⟩ = some (.int .i64 1) := World.ownsRow.cellAt hO 3 (by decide)
  go_wp2_with fail
  go_ret
  exact ⟨rfl, b1⟩
/-- The greatest common divisor; 0, if one is below 0. -/
def gcdz (a b : Int) : Int := if a < 0 ∨ b < 0 then 0 else ((Nat.gcd a.toNat b.toNat : Nat) : Int)
theorem gcdz_neg (a b : Int) (h : a < 0 ∨ b < 0) : gcdz a b = 0 := if_pos h
theorem gcdz_nat (a b : Nat) : gcdz a b = ((Nat.gcd a b : Nat) : Int) := by
  unfold gcdz
  rw [if_neg (by omega)]
  simp
theorem fact_gcd (a b : Int) (w : World) (a1 : a ≤ 9223372036854775807) (b1 : b ≤ 9223372036854775807) :
    Calls Try.prog 118 #[.int .i64 a, .int .i64 b] w fun e w' => e = .returned (.int .i64 (gcdz a b)) ∧ Below w.heap.size w w' := by
  have hB := Below.refl w.heap.size w
  by_cases h : a < 0 ∨ b < 0
  · rw [gcdz_neg a b h]
    by_cases ha : a < 0
    · have d1 : decide (a < 0) = true := decide_eq_true ha
      go_enter Try.func118, Try.ntmps118
      go_wp2
      go_ret
      exact ⟨rfl, hB⟩
    · have d1 : decide (a < 0) = false := decide_eq_false ha
      have d2 : decide (b < 0) = true := decide_eq_true (by omega)
      go_enter Try.func118, Try.ntmps118
      go_wp2
      go_ret
      exact ⟨rfl, hB⟩
  · obtain ⟨x, rfl⟩ : ∃ x : Nat, a = x := ⟨a.toNat, by omega⟩
    obtain ⟨y, rfl⟩ : ∃ y : Nat, b = y := ⟨b.toNat, by omega⟩
    rw [gcdz_nat]
    have d1 : decide ((x : Int) < 0) = false := decide_eq_false (by omega)
    have d2 : decide ((y : Int) < 0) = false := decide_eq_false (by omega)
    clear h
    go_enter Try.func118, Try.ntmps118
    go_wp2
    go_loopw [0, 1] (fun s t wr => ∃ u v : Nat, s = .int .i64 u ∧ t = .int .i64 v ∧ u ≤ 9223372036854775807 ∧ v ≤ 9223372036854775807 ∧ Hid (Nat.gcd u v = Nat.gcd x y) ∧ Below w.heap.size w wr) (fun _ t _ => (intOf t).toNat)
    case atStart => exact ⟨x, y, rfl, rfl, by omega, by omega, Lib.hid rfl, hB⟩
    case round =>
      clear hB
      obtain ⟨u, v, rfl, rfl, hu, hv, HG, hB⟩ := hrel
      by_cases v0 : v = 0
      · subst v0
        have HE := Lib.hid (show Nat.gcd x y = u by rw [← HG.out]; simp)
        go_wp2
        go_ret
        exact ⟨by rw [HE.out]; rfl, hB⟩
      · have hz : ((v : Int) == 0) = false := by simp; omega
        have hz2 : ((v : Int) != 0) = true := by simp; omega
        have hmod : ((u : Int)).tmod (v : Int) = ((u % v : Nat) : Int) := by
          rw [Int.tmod_eq_emod_of_nonneg (by omega)]; omega
        have hmod' : ((u : Int)) % (v : Int) = ((u % v : Nat) : Int) := by omega
        have hlt : u % v < v := Nat.mod_lt _ (by omega)
        have HG2 := Lib.hid (show Nat.gcd v (u % v) = Nat.gcd x y by rw [← HG.out, Nat.gcd_comm u v, Nat.gcd_rec v u, Nat.gcd_comm])
        generalize u % v = m at *
        go_wp2_with fail
        go_quiet (fail)
        go_wp2_with fail
        go_roundw
        case rel => exact ⟨v, m, rfl, rfl, by omega, by omega, HG2, below_drewN hB _⟩
        case measure => (first | (simp [intOf]; done) | (simp [intOf]; omega) | (simp only [intOf]; omega))
theorem r3_gcdn (n : Nat) : ∀ (a b : Nat) (w : World), a + b ≤ n → a ≤ 9223372036854775807 → b ≤ 9223372036854775807 →
    Calls Try.prog 25 #[.int .i64 a, .int .i64 b] w fun e w' => e = .returned (.int .i64 ((Nat.gcd a b : Nat) : Int)) ∧ Below w.heap.size w w' := by
  induction n using Nat.strongRecOn with
  | _ n ih =>
    intro a b w hn ha hb
    have hB := Below.refl w.heap.size w
    have d1 : decide ((a : Int) < 0) = false := decide_eq_false (by omega)
    have d2 : decide ((b : Int) < 0) = false := decide_eq_false (by omega)
    by_cases a0 : a = 0
    · subst a0
      have HE := Lib.hid (show Nat.gcd 0 b = b by simp)
      go_enter Try.func25, Try.ntmps25
      go_wp2
      go_ret
      exact ⟨by rw [HE.out]; rfl, hB⟩
    have e1 : ((a : Int) == 0) = false := by simp; omega
    by_cases b0 : b = 0
    · subst b0
      have HE := Lib.hid (show Nat.gcd a 0 = a by simp)
      go_enter Try.func25, Try.ntmps25
      go_wp2
      go_ret
      exact ⟨by rw [HE.out]; rfl, hB⟩
    have e2 : ((b : Int) == 0) = false := by simp; omega
    by_cases hlt : a < b
    · have d3 : decide ((a : Int) < (b : Int)) = true := decide_eq_true (by omega)
      have hm : b % a < a := Nat.mod_lt _ (by omega)
      have IH := Lib.hid (fun w => ih (b % a + a) (by omega) (b % a) a w (by omega) (by omega) ha)
      have HE := Lib.hid (show Nat.gcd (b % a) a = Nat.gcd a b from (Nat.gcd_rec a b).symm)
      have hmod : ((b : Int)).tmod (a : Int) = ((b % a : Nat) : Int) := by
        rw [Int.tmod_eq_emod_of_nonneg (by omega)]; omega
      have hmod' : ((b : Int)) % (a : Int) = ((b % a : Nat) : Int) := by omega
      clear ih
      generalize b % a = m at *
      go_enter Try.func25, Try.ntmps25
      go_wp2_with fail
      refine (IH.out _).mono ?_
      rintro e w1 ⟨rfl, b1⟩
      go_wp2_with fail
      go_ret
      exact ⟨by rw [HE.out]; rfl, b1⟩
    · have d3 : decide ((a : Int) < (b : Int)) = false := decide_eq_false (by omega)
      have hm : a % b < b := Nat.mod_lt _ (by omega)
      have IH := Lib.hid (fun w => ih (a % b + b) (by omega) (a % b) b w (by omega) (by omega) hb)
      have HE := Lib.hid (show Nat.gcd (a % b) b = Nat.gcd a b by rw [← Nat.gcd_rec b a, Nat.gcd_comm])
      have hmod : ((a : Int)).tmod (b : Int) = ((a % b : Nat) : Int) := by
        rw [Int.tmod_eq_emod_of_nonneg (by omega)]; omega
      have hmod' : ((a : Int)) % (b : Int) = ((a % b : Nat) : Int) := by omega
      clear ih
      generalize a % b = m at *
      go_enter Try.func25, Try.ntmps25
      go_wp2_with fail
      refine (IH.out _).mono ?_
      rintro e w1 ⟨rfl, b1⟩
      go_wp2_with fail
      go_ret
      exact ⟨by rw [HE.out]; rfl, b1⟩
theorem r3_gcd (a b : Int) (w : World) (a1 : a ≤ 9223372036854775807) (b1 : b ≤ 9223372036854775807) :
    Calls Try.prog 25 #[.int .i64 a, .int .i64 b] w fun e w' => e = .returned (.int .i64 (gcdz a b)) ∧ Below w.heap.size w w' := by
  have hB := Below.refl w.heap.size w
  by_cases h : a < 0 ∨ b < 0
  · rw [gcdz_neg a b h]
    by_cases ha : a < 0
    · have d1 : decide (a < 0) = true := decide_eq_true ha
      go_enter Try.func25, Try.ntmps25
      go_wp2
      go_ret
      exact ⟨rfl, hB⟩
    · have d1 : decide (a < 0) = false := decide_eq_false ha
      have d2 : decide (b < 0) = true := decide_eq_true (by omega)
      go_enter Try.func25, Try.ntmps25
      go_wp2
      go_ret
      exact ⟨rfl, hB⟩
  · obtain ⟨x, rfl⟩ : ∃ x : Nat, a = x := ⟨a.toNat, by omega⟩
    obtain ⟨y, rfl⟩ : ∃ y : Nat, b = y := ⟨b.toNat, by omega⟩
    rw [gcdz_nat]
    exact r3_gcdn (x + y) x y w (by omega) (by omega) (by omega)
end Go.Proofs.Ytmeaakchnellfaa
