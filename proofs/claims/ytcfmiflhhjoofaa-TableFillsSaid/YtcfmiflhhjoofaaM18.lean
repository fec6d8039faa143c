/- Put together by program (merge.py): Fact Rowi. -/
import Derived.WalkMore
import Derived.Handy
import Derived.Deep.AppendLies
import Derived.Test.YtcfmiflhhjoofaaM1
/- Package fact: Gcd; the page's example of layer 3. -/
namespace Go.Proofs.Ytcfmiflhhjoofaa
open Go.ChangeShapes Go.WideShapes Go.ChangeAt Go.RowKit
set_option linter.unusedVariables false
theorem info_pw : (Try.prog.info? 70).map (fun i => (i.zero.map (fun z => z.cells.size), i.size, i.bytes)) = some (some 2, 2, 16) := by kernel_rfl
theorem append_pw {ops : Array Oper} {rest : List Oper} {o : Oper} {a : Act} {Q : Exit → Act → World → Prop} {W : World} {B : Nat} {v : Value} {n : Nat} {xs : List Value} {p q : Int} (hgd : o.guard = none) (s x : Operand)
    (ho : o.op = .call { callee := .builtin .append, args := #[s, x], argTypes := #[66, 66] }) (hs : a.eval s = v) (hown : W.ownsRow B 70 2 v n xs) (hx : a.eval x = .slice (some ⟨W.heap.size, 0, none⟩) 1 1) (hB : B ≤ W.heap.size) (hn : n < 1000)
    (h : ∀ v' w', w'.ownsRow B 70 2 v' (n + 1) (xs ++ [.int .i64 p, .int .i64 q]) → Below B W w' → wpList Try.prog ops Q rest (a.put o.dst v') w') : wpList Try.prog ops Q (o :: rest) a (W.alloc (.cells #[.int .i64 p, .int .i64 q] 70)) := by
  obtain ⟨i0, hi⟩ : ∃ i, Try.prog.info? 70 = some i := by
    cases h0 : Try.prog.info? 70 with
    | none => have := info_pw; rw [h0] at this; cases this
    | some i => exact ⟨i, rfl⟩
  have h1 := info_pw
  rw [hi] at h1
  simp only [Option.map_some, Option.some.injEq, Prod.mk.injEq] at h1
  obtain ⟨hz, hsz, hby⟩ := h1
  obtain ⟨z, hz1, hz2⟩ : ∃ z, i0.zero = some z ∧ z.cells.size = 2 := by
    cases h0 : i0.zero with
    | none => rw [h0] at hz; cases hz
    | some z => rw [h0] at hz; simp at hz; exact ⟨z, rfl, hz⟩
  refine wpList_append_lies _ hgd s x 66 ho B 70 i0 z 2 16 Try.underlying66 hi hz1 hsz hby hz2 (by decide) v n xs hs (World.ownsRow.alloc hown _) ⟨W.heap.size, 0, none⟩ 1 1 [.int .i64 p, .int .i64 q] hx rfl ?_ ?_ (by decide) ?_ ?_ (by simp; omega) _ rfl ?_
  · intro j u hj
    have := World.news_of_block (heap_alloc_new W (.cells #[.int .i64 p, .int .i64 q] 70)) j u hj
    exact this
  · intro u hu
    simp at hu
    rcases hu with rfl | rfl <;> rfl
  · unfold maxLen; omega
  · omega
  · intro g cap w' h2 h3 _ _
    exact h _ w' h2 (((Below.refl _ _).alloc hB _).grown h3 (by simp; omega) (fun i hi => (World.ownsRow.lt hown i hi).1))
theorem within12 (w : World) : Calls Try.prog 62 #[.int .i64 12] w fun e w' => e = .returned (.bool true) ∧ w = w' := by
  go_enter Try.func62, Try.ntmps62
  go_wp2
  go_ret
  exact ⟨rfl, rfl⟩
set_option maxRecDepth 100000 in
set_option maxHeartbeats 4000000 in
theorem f12 (w : World) : Calls Try.prog 51 #[.int .i64 12] w fun e w' => ∃ v, e = .returned (.tuple #[v, .int .i64 0]) ∧ w'.ownsRow w.heap.size 70 2 v 2 [.int .i64 2, .int .i64 2, .int .i64 3, .int .i64 1] ∧ Below w.heap.size w w' := by
  go_enter Try.func51, Try.ntmps51
  go_wp2_with fail
  go_step3
  go_wp2_with (go_at_call 62; (with_reducible refine (within12 _).mono ?_); rintro e w' ⟨rfl, rfl⟩)
  go_step3
  go_wp2_with fail
  refine wp_loop_rounds 3 ?_
  rw [rounds_succ]
  go_wp2_with fail
  refine wp_loop_rounds 2 ?_
  rw [rounds_succ]
  go_wp2_with fail
  refine wp_loop_rounds 3 ?_
  rw [rounds_succ]
  go_wp2_with fail
  rw [rounds_succ]
  go_wp2_with fail
  rw [rounds_succ]
  have HO0 := World.ownsRow_nil w w.heap.size 70 2
  go_wp2_with (at_builtin; refine append_pw rfl _ _ rfl rfl HO0 rfl (Nat.le_refl _) (by decide) ?_; intro v1 w1 hO1 hb1)
  rw [rounds_succ]
  go_wp2_with fail
  refine wp_loop_rounds 2 ?_
  rw [rounds_succ]
  go_wp2_with (at_builtin; refine append_pw rfl _ _ rfl rfl hO1 rfl hb1.size (by decide) ?_; intro v2 w2 hO2 hb2)
  rw [Exit.noGoto_ret]
  go_ret2
  exact ⟨_, rfl, hO2, hb1.trans hb2⟩
/-- The greatest common divisor; 0, if one is below 0. -/
def gcdz (a b : Int) : Int := if a < 0 ∨ b < 0 then 0 else ((Nat.gcd a.toNat b.toNat : Nat) : Int)
theorem gcdz_neg (a b : Int) (h : a < 0 ∨ b < 0) : gcdz a b = 0 := if_pos h
theorem gcdz_nat (a b : Nat) : gcdz a b = ((Nat.gcd a b : Nat) : Int) := by
  unfold gcdz
  rw [if_neg (by omega)]
  simp
theorem fact_gcd (a b : Int) (w : World) (a1 : a ≤ 9223372036854775807) (b1 : b ≤ 9223372036854775807) :
    Calls Try.prog 96 #[.int .i64 a, .int .i64 b] w fun e w' => e = .returned (.int .i64 (gcdz a b)) ∧ Below w.heap.size w w' := by
  have hB := Below.refl w.heap.size w
  by_cases h : a < 0 ∨ b < 0
  · rw [gcdz_neg a b h]
    by_cases ha : a < 0
    · have d1 : decide (a < 0) = true := decide_eq_true ha
      go_enter Try.func96, Try.ntmps96
      go_wp2
      go_ret
      exact ⟨rfl, hB⟩
    · have d1 : decide (a < 0) = false := decide_eq_false ha
      have d2 : decide (b < 0) = true := decide_eq_true (by omega)
      go_enter Try.func96, Try.ntmps96
      go_wp2
      go_ret
      exact ⟨rfl, hB⟩
  · obtain ⟨x, rfl⟩ : ∃ x : Nat, a = x := ⟨a.toNat, by omega⟩
    obtain ⟨y, rfl⟩ : ∃ y : Nat, b = y := ⟨b.toNat, by omega⟩
    rw [gcdz_nat]
    have d1 : decide ((x : Int) < 0) = false := decide_eq_false (by omega)
    have d2 : decide ((y : Int) < 0) = false := decide_eq_false (by omega)
    clear h
    go_enter Try.func96, Try.ntmps96
    go_wp2
    go_loopw [0, 1] (fun s t wr => ∃ u v : Nat, s = .int .i64 u ∧ t = .int .i64 v ∧ u ≤ 9223372036854775807 ∧ v ≤ 9223372036854775807 ∧ Hid (Nat.gcd u v = Nat.gcd x y) ∧ Below w.heap.size w wr) (fun _ t _ => (intOf t).toNat)
    case atStart => exact ⟨x, y, rfl, rfl, by omega, by omega, Lib.hid rfl, hB⟩
    case round =>
      clear hB
      obtain ⟨u, v, rfl, rfl, hu, hv, HG, hB⟩ := hrel
      by_cases v0 : v = 0
      · subst v0
        have HE := Lib.hid (show Nat.gcd x y = u by rw [← HG.out]; simp)
        go_wp2
        go_ret
        exact ⟨by rw [HE.out]; rfl, hB⟩
      · have hz : ((v : Int) == 0) = false := by simp; omega
        have hz2 : ((v : Int) != 0) = true := by simp; omega
        have hmod : ((u : Int)).tmod (v : Int) = ((u % v : Nat) : Int) := by
          rw [Int.tmod_eq_emod_of_nonneg (by omega)]; omega
        have hmod' : ((u : Int)) % (v : Int) = ((u % v : Nat) : Int) := by omega
        have hlt : u % v < v := Nat.mod_lt _ (by omega)
        have HG2 := Lib.hid (show Nat.gcd v (u % v) = Nat.gcd x y by rw [← HG.out, Nat.gcd_comm u v, Nat.gcd_rec v u, Nat.gcd_comm])
        generalize u % v = m at *
        go_wp2_with fail
        go_quiet (fail)
        go_wp2_with fail
        go_roundw
        case rel => exact ⟨v, m, rfl, rfl, by omega, by omega, HG2, below_drewN hB _⟩
        case measure => (first | (simp [intOf]; done) | (simp [intOf]; omega) | (simp only [intOf]; omega))
end Go.Proofs.Ytcfmiflhhjoofaa
/- Rows of ints that a call makes and fills place by place. -/
namespace Go.Proofs.Ytcfmiflhhjoofaa
open Go.ChangeShapes Go.WideShapes Go.ChangeAt Go.RowKit
set_option linter.unusedVariables false

/-- A row of n places, of which the first k hold those of ys, the others nought. -/
def filli (ys : List Int) (k n : Nat) : Array Value := ((ys.take k ++ List.replicate (n - k) 0).map (Value.int .i64)).toArray
theorem filli_zero (ys : List Int) (n : Nat) : filli ys 0 n = Array.replicate n (.int .i64 0) := by
  unfold filli; simp
theorem filli_step (ys : List Int) (k n : Nat) (hk : k < n) (hn : ys.length = n) : (filli ys k n).setIfInBounds k (.int .i64 (ys.getD k 0)) = filli ys (k + 1) n := by
  have hky : k < ys.length := by omega
  have e : ys.getD k 0 = ys[k] := by simp [List.getD, hky]
  unfold filli
  rw [e, List.setIfInBounds_toArray]
  congr 1
  apply List.ext_getElem?
  intro i
  rw [List.getElem?_set]
  simp only [List.getElem?_map, List.getElem?_append, List.length_take, List.length_map, List.length_append, List.length_replicate, List.getElem?_take, List.getElem?_replicate]
  by_cases h1 : k = i
  · subst h1
    have h2 : k < min (k + 1) ys.length := by omega
    have h3 : k < min k ys.length + (n - k) := by omega
    simp [h2, h3, List.getElem?_eq_getElem hky]
  · by_cases h2 : i < k
    · have h3 : i < min k ys.length := by omega
      have h4 : i < min (k + 1) ys.length := by omega
      have h5 : i < k + 1 := by omega
      simp [h1, h2, h3, h4, h5]
    · have h3 : ¬ i < min k ys.length := by omega
      have h4 : ¬ i < min (k + 1) ys.length := by omega
      have e1 : min k ys.length = k := by omega
      have e2 : min (k + 1) ys.length = k + 1 := by omega
      simp only [h1, h3, h4, if_false, e1, e2]
      have h8 : ¬ i < k + 1 := by omega
      by_cases h5 : i < n
      · have h6 : i - k < n - k := by omega
        have h7 : i - (k + 1) < n - (k + 1) := by omega
        simp [h2, h8, h6, h7]
      · have h6 : ¬ i - k < n - k := by omega
        have h7 : ¬ i - (k + 1) < n - (k + 1) := by omega
        simp [h2, h8, h6, h7]
theorem filli_full (ys : List Int) (n : Nat) (hn : ys.length = n) : filli ys n n = (ys.map (Value.int .i64)).toArray := by
  unfold filli; rw [← hn]; simp
theorem filli_at (ys : List Int) (k n i : Nat) (hk : k ≤ n) (hi : i < n) (hn : ys.length = n) : ∃ v, (filli ys k n)[i]? = some v := by
  have : i < (filli ys k n).size := by unfold filli; simp; omega
  exact ⟨_, Array.getElem?_eq_getElem this⟩

/-- Block B holds the numbers ys, and no more. -/
def RowAtI (w : World) (B : Nat) (T : TypeId) (ys : List Int) : Prop := w.heap[B]? = some (.cells ((ys.map (Value.int .i64)).toArray) T (0, 0))
theorem RowAtI.lt {w : World} {B : Nat} {T : TypeId} {ys : List Int} (h : RowAtI w B T ys) : B < w.heap.size := by
  unfold RowAtI at h
  by_cases hlt : B < w.heap.size
  · exact hlt
  · have : w.heap[B]? = none := by simp; omega
    rw [this] at h; simp at h
theorem RowAtI.reads {w : World} {B : Nat} {T : TypeId} {ys : List Int} (h : RowAtI w B T ys) : Reads .i64 w (some ⟨B, 0, none⟩) ys :=
  .inr ⟨B, 0, rfl, h.lt, fun i hi => by
    rw [cell_of_row w B (0 + i) _ _ _ h]
    simp [List.getD, hi]⟩
theorem RowAtI.below {w w' : World} {B : Nat} {T : TypeId} {ys : List Int} (h : RowAtI w B T ys) (hb : Below w.heap.size w w') : RowAtI w' B T ys := by
  unfold RowAtI; rw [hb.block B h.lt]; exact h
theorem RowAtI.alloc {w : World} {B : Nat} {T : TypeId} {ys : List Int} (h : RowAtI w B T ys) (o : Obj) : RowAtI (w.alloc o) B T ys := by
  unfold RowAtI; rw [Below.heap_alloc w o B h.lt]; exact h

theorem made_cells_i (v : Value) (n : Nat) : madeCells #[v] n = Array.replicate n v := by
  unfold madeCells
  apply Array.ext
  · simp
  · intro i h1 h2
    simp [Nat.mod_one]

theorem info_i64 : (Try.prog.info? 3).map (fun i => (i.zero, i.size, i.bytes)) = some (some (.int .i64 0), 1, 8) := by kernel_rfl
theorem make_i64 (n : Nat) (hn : n ≤ 35184372088832) (w : World) :
    (Instr.makeSlice 54 (.int .i64 (n : Int)) (.int .i64 (n : Int))).run Try.prog w = .ok (.slice (some ⟨w.heap.size, 0, none⟩) n n) (w.alloc (.cells (Array.replicate n (.int .i64 0)) 3)) := by
  obtain ⟨i, hi, hz, hs, hb⟩ := info_parts info_i64
  rw [run_make w 54 3 i (.int .i64 0) Try.underlying54 hi hz .i64 .i64 (n : Int) (n : Int) (by omega) (by omega) (by rw [hb]; omega) (by omega), hs, Int.toNat_natCast, Nat.mul_one]
  rw [show (Value.int .i64 0).cells = #[.int .i64 0] from rfl, made_cells_i]

/-- A row that is being filled: block B. -/
def FillingI (w : World) (B : Nat) (T : TypeId) (ys : List Int) (k n : Nat) : Prop := w.heap[B]? = some (.cells (filli ys k n) T (0, 0))
theorem FillingI.lt {w : World} {B : Nat} {T : TypeId} {ys : List Int} {k n : Nat} (h : FillingI w B T ys k n) : B < w.heap.size := by
  unfold FillingI at h
  by_cases hlt : B < w.heap.size
  · exact hlt
  · have : w.heap[B]? = none := by simp; omega
    rw [this] at h; simp at h
theorem FillingI.below {w w' : World} {B : Nat} {T : TypeId} {ys : List Int} {k n : Nat} (h : FillingI w B T ys k n) (hb : Below w.heap.size w w') : FillingI w' B T ys k n := by
  unfold FillingI; rw [hb.block B h.lt]; exact h
theorem FillingI.start (w : World) (T : TypeId) (ys : List Int) (n : Nat) : FillingI (w.alloc (.cells (Array.replicate n (.int .i64 0)) T)) w.heap.size T ys 0 n := by
  unfold FillingI; rw [heap_alloc_new, filli_zero]
theorem FillingI.cell {w : World} {B : Nat} {T : TypeId} {ys : List Int} {k n : Nat} (h : FillingI w B T ys k n) (hk : k < n) (hn : ys.length = n) : ∃ v, w.cell? ⟨B, k, none⟩ = some v := by
  obtain ⟨v, hv⟩ := filli_at ys k n k (by omega) hk hn
  exact ⟨v, by rw [cell_of_row w B k _ _ _ h]; exact hv⟩
theorem FillingI.free {w : World} {B : Nat} {T : TypeId} {ys : List Int} {k n : Nat} (h : FillingI w B T ys k n) (j : Nat) : w.frozen? ⟨B, j, none⟩ = false := frozen_of_row w B j _ _ h
theorem FillingI.step {w : World} {B : Nat} {T : TypeId} {ys : List Int} {k n : Nat} (h : FillingI w B T ys k n) (hk : k < n) (hn : ys.length = n) {y : Int} (hy : ys.getD k 0 = y) : FillingI (w.setCell ⟨B, k, none⟩ (.int .i64 y)) B T ys (k + 1) n := by
  unfold FillingI
  rw [heap_setCell_same w B k _ T _ h, ← hy, filli_step ys k n hk hn]
theorem FillingI.done {w : World} {B : Nat} {T : TypeId} {ys : List Int} {n : Nat} (h : FillingI w B T ys n n) (hn : ys.length = n) : RowAtI w B T ys := by
  unfold FillingI at h; unfold RowAtI; rw [h, filli_full ys n hn]


end Go.Proofs.Ytcfmiflhhjoofaa
