/- Package tick: a clock of somebody else's; laps by it. -/
import Derived.Test.YtlbkmheggdgfoaaTick3
namespace Go.Proofs.Ytlbkmheggdgfoaa
open Go.ChangeShapes Go.WideShapes Go.ChangeAt Go.RowKit
set_option linter.unusedVariables false
/-- Block C is the strange clock over block L, asked k times. -/
structure Str (w : World) (C L : Nat) (a b : Int) (k : Nat) : Prop where
  h : w.heap[C]? = some (.cells #[.slice (some ⟨L, 0, none⟩) 2 2, .int .i64 k] 31 (0, 0))
  l : w.heap[L]? = some (.cells #[.int .i64 a, .int .i64 b] 3 (0, 0))
/-- Block B holds just v. -/
def Bx (w : World) (B : Nat) (T : TypeId) (v : Value) : Prop := w.heap[B]? = some (.cells #[v] T (0, 0))
/-- What is not among Cs is as it was. -/
structure Kept (w w' : World) (Cs : List Nat) : Prop where
  o : ∀ B, B ∉ Cs → w'.heap[B]? = w.heap[B]?
  z : w'.heap.size = w.heap.size
  b : ∀ H, (∀ c ∈ Cs, H ≤ c) → Below H w w'
theorem Kept.refl (w : World) (Cs : List Nat) : Kept w w Cs := ⟨fun _ _ => rfl, rfl, fun _ _ => Below.refl _ _⟩
theorem Kept.mono {w w' : World} {Cs Ds : List Nat} (h : Kept w w' Cs) (hs : ∀ c, c ∈ Cs → c ∈ Ds) : Kept w w' Ds := ⟨fun B hB => h.o B (fun hc => hB (hs B hc)), h.z, fun H hH => h.b H (fun c hc => hH c (hs c hc))⟩
theorem Kept.trans {w w' w'' : World} {Cs : List Nat} (h : Kept w w' Cs) (k : Kept w' w'' Cs) : Kept w w'' Cs := ⟨fun B hB => (k.o B hB).trans (h.o B hB), k.z.trans h.z, fun H hH => (h.b H hH).trans (k.b H hH)⟩
theorem Kept.set (w : World) (C j : Nat) (v : Value) : Kept w (w.setCell ⟨C, j, none⟩ v) [C] := ⟨fun B hB => heap_setCell_other w ⟨C, j, none⟩ B v (by simpa using hB), by simp, fun H hH => (Below.refl _ _).setCell (hH C (by simp)) _⟩
theorem Kept.drewN (w : World) (q : Nat) (Cs : List Nat) : Kept w (w.drewN q) Cs := ⟨fun _ _ => rfl, rfl, fun H _ => below_drewN (Below.refl H w) q⟩
theorem Str.kept {w w' : World} {C L : Nat} {a b : Int} {k : Nat} (h : Str w C L a b k) {Cs : List Nat} (hk : Kept w w' Cs) (h1 : C ∉ Cs) (h2 : L ∉ Cs) : Str w' C L a b k := ⟨(hk.o C h1).trans h.h, (hk.o L h2).trans h.l⟩
theorem Bx.kept {w w' : World} {B : Nat} {T : TypeId} {v : Value} (h : Bx w B T v) {Cs : List Nat} (hk : Kept w w' Cs) (h1 : B ∉ Cs) : Bx w' B T v := (hk.o B h1).trans h
theorem Bx.cell {w : World} {B : Nat} {T : TypeId} {v : Value} (h : Bx w B T v) : w.cell? ⟨B, 0, none⟩ = some v := by rw [cell_of_row w B 0 _ _ _ h]; rfl
theorem Bx.free {w : World} {B : Nat} {T : TypeId} {v : Value} (h : Bx w B T v) : w.frozen? ⟨B, 0, none⟩ = false := frozen_of_row w B 0 _ _ h
theorem Bx.lt {w : World} {B : Nat} {T : TypeId} {v : Value} (h : Bx w B T v) : B < w.heap.size := block_lt_of_cell h.cell
theorem Bx.set {w : World} {B : Nat} {T : TypeId} {v : Value} (h : Bx w B T v) (u : Value) : Bx (w.setCell ⟨B, 0, none⟩ u) B T u := by
  have := heap_setCell_same w B 0 _ _ u h
  simpa [Bx] using this
theorem Str.set {w : World} {C L : Nat} {a b : Int} {k : Nat} (h : Str w C L a b k) (hne : C ≠ L) : Str (w.setCell ⟨C, 1, none⟩ (.int .i64 ((k + 1 : Nat) : Int))) C L a b (k + 1) := by
  refine ⟨?_, ?_⟩
  · have := heap_setCell_same w C 1 _ _ (.int .i64 ((k + 1 : Nat) : Int)) h.h
    simpa using this
  · exact ((Kept.set w C 1 _).o L (by simpa using fun e => hne e.symm)).trans h.l
def AskedS (w : World) (C L : Nat) (a b : Int) (k : Nat) (x : Int) (e : Ending) (w' : World) : Prop := e = .returned (.int .i64 x) ∧ Str w' C L a b k ∧ Kept w w' [C]
set_option maxRecDepth 100000 in
theorem strange_now (C L : Nat) (a b x : Int) (k : Nat) (w : World) (hk : k < 2) (hne : C ≠ L) (hx : x = if k = 0 then a else b) (h : Str w C L a b k) : Calls Try.prog 110 #[.pointer (some ⟨C, 0, none⟩)] w (AskedS w C L a b (k + 1) x) := by
  have HS := Lib.hid (h.set hne)
  obtain ⟨hh, hl⟩ := h
  have c0 : w.cell? ⟨C, 0, none⟩ = some (.slice (some ⟨L, 0, none⟩) 2 2) := by rw [cell_of_row w C 0 _ _ _ hh]; rfl
  have c1 : w.cell? ⟨C, 1, none⟩ = some (.int .i64 k) := by rw [cell_of_row w C 1 _ _ _ hh]; rfl
  have hf : ∀ j, w.frozen? ⟨C, j, none⟩ = false := fun k => frozen_of_row w C k _ _ hh
  have l0 : w.cell? ⟨L, 0, none⟩ = some (.int .i64 a) := by rw [cell_of_row w L 0 _ _ _ hl]; rfl
  have l1 : w.cell? ⟨L, 1, none⟩ = some (.int .i64 b) := by rw [cell_of_row w L 1 _ _ _ hl]; rfl
  have hC : C < w.heap.size := block_lt_of_cell c0
  clear hh hl
  have hc : k = 0 ∨ k = 1 := by omega
  rcases hc with rfl | rfl
  all_goals
    simp at hx
    subst hx
    go_enter Try.func110, Try.ntmps110
    go_wp2_with fail
    go_quiet (fail)
    go_wp2_with fail
    go_quiet (fail)
    go_wp2_with fail
    go_ret
    exact ⟨rfl, HS.out.kept (Kept.trans (Kept.drewN _ _ []) (Kept.drewN _ _ [])) (by simp) (by simp), (Kept.set w C 1 _).trans ((Kept.drewN _ _ _).trans (Kept.drewN _ _ _))⟩
/-- How far a clock went on. -/
def gone (a b : Int) : Int := if a < b then (if b - a < 1152921504606846976 then b - a else 1152921504606846976) else 0
theorem gone_arith (a b : Int) (a0 : -9223372036854775808 ≤ a) (a1 : a ≤ 9223372036854775807) (b0 : -9223372036854775808 ≤ b) (b1 : b ≤ 9223372036854775807) (h : a < b) : (b % 18446744073709551616 - a % 18446744073709551616) % 18446744073709551616 = b - a := by omega
theorem nil_lap (C L : Nat) (a b : Int) (w : World) (a0 : -9223372036854775808 ≤ a ∧ a ≤ 9223372036854775807) (b0 : -9223372036854775808 ≤ b ∧ b ≤ 9223372036854775807) (hne : C ≠ L) (h : Str w C L a b 0) : Calls Try.prog 18 #[.iface 29 (.pointer (some ⟨C, 0, none⟩)), .nilFunc] w (AskedS w C L a b 2 (gone a b)) := by
  have N1 := Lib.hid (strange_now C L a b a 0 w (by omega) hne rfl h)
  have N2 := Lib.hid (fun w h => strange_now C L a b b 1 w (by omega) hne rfl h)
  obtain ⟨a0, a1⟩ := a0
  obtain ⟨b0, b1⟩ := b0
  clear h
  go_enter Try.func18, Try.ntmps18
  go_wp2_with fail
  refine N1.out.mono ?_
  rintro e w1 ⟨rfl, s1, k1⟩
  have S1 := Lib.hid s1
  have K1 := Lib.hid k1
  clear s1 k1 N1
  go_wp2_with fail
  refine (nil_call _).mono ?_
  rintro e w2 ⟨rfl, rfl⟩
  go_wp2_with fail
  refine (N2.out _ S1.out).mono ?_
  rintro e w2 ⟨rfl, s2, k2⟩
  have S2 := Lib.hid s2
  have K2 := Lib.hid (K1.out.trans k2)
  clear s2 k2 N2 S1
  by_cases hlt : b ≤ a
  · have hg : (0 : Int) = gone a b := by unfold gone; rw [if_neg (by omega)]
    have G := Lib.hid hg
    clear hg
    go_wp2_with fail
    go_ret
    exact ⟨ret_i64 G.out, S2.out, K2.out⟩
  · have HA := gone_arith a b a0 a1 b0 b1 (by omega)
    have hlt' : a < b := by omega
    go_wp2_with fail
    all_goals go_ret
    all_goals (refine ⟨ret_i64 ?_, S2.out, K2.out⟩; unfold gone; rw [if_pos hlt']; simp only [IntKind.wrap_u64, HA, wrap64] at *; split <;> omega)
end Go.Proofs.Ytlbkmheggdgfoaa
