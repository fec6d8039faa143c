/- Package tick: laps around a function. -/
import Derived.Test.YtlbkmheggdgfoaaTick4
import Derived.Outline
namespace Go.Proofs.Ytlbkmheggdgfoaa
open Go.ChangeShapes Go.WideShapes Go.ChangeAt Go.RowKit
set_option linter.unusedVariables false
abbrev clo (N P A : Nat) : Value := .func (.func 17) #[] #[.pointer (some ⟨N, 0, none⟩), .pointer (some ⟨P, 0, none⟩), .pointer (some ⟨A, 0, none⟩)]
structure Cl (w : World) (N P A C L : Nat) (a b n u : Int) (k : Nat) : Prop where
  hn : Bx w N 3 (.int .i64 n)
  hp : Bx w P 29 (.pointer (some ⟨C, 0, none⟩))
  ha : Bx w A 3 (.int .i64 u)
  hs : Str w C L a b k
def Did (w : World) (N P A C L : Nat) (a b n u : Int) (k : Nat) (Cs : List Nat) (v : Value) (e : Ending) (w' : World) : Prop := e = .returned v ∧ Cl w' N P A C L a b n u k ∧ Kept w w' Cs
theorem clo_runs (N P A C L : Nat) (a b n u : Int) (k : Nat) (w : World) (hn : 0 ≤ n ∧ n ≤ 10) (hk : k ≤ 10) (h1 : N ≠ P ∧ N ≠ A ∧ N ≠ C ∧ N ≠ L ∧ A ≠ P ∧ A ≠ C ∧ A ≠ L) (h : Cl w N P A C L a b n u k) :
    Calls Try.prog 17 #[.pointer (some ⟨N, 0, none⟩), .pointer (some ⟨P, 0, none⟩), .pointer (some ⟨A, 0, none⟩)] w (Did w N P A C L a b (n + 1) k k [N, A] (.tuple #[])) := by
  obtain ⟨n0, n1⟩ := hn
  obtain ⟨d1, d2, d3, d4, d5, d6, d7⟩ := h1
  obtain ⟨hN, hP, hA, hS⟩ := h
  have kN := Kept.set w N 0 (.int .i64 (n + 1))
  have kA := Kept.set (w.setCell ⟨N, 0, none⟩ (.int .i64 (n + 1))) A 0 (.int .i64 (k : Int))
  have E1 := Lib.hid (show Cl ((w.setCell ⟨N, 0, none⟩ (.int .i64 (n + 1))).setCell ⟨A, 0, none⟩ (.int .i64 (k : Int))) N P A C L a b (n + 1) k k from
    ⟨(hN.set _).kept kA (by simpa using d2), (hP.kept kN (by simpa using Ne.symm d1)).kept kA (by simpa using Ne.symm d5), (hA.kept kN (by simpa using Ne.symm d2)).set _, (hS.kept kN (by simpa using Ne.symm d3) (by simpa using Ne.symm d4)).kept kA (by simpa using Ne.symm d6) (by simpa using Ne.symm d7)⟩)
  have E2 := Lib.hid ((kN.mono (Ds := [N, A]) (by simp)).trans (kA.mono (by simp)))
  have cN := hN.cell
  have fN := hN.free
  have zN := hN.lt
  have cP := hP.cell
  have zP := hP.lt
  have cA := hA.cell
  have fA := hA.free
  have zA := hA.lt
  have c1 : w.cell? ⟨C, 1, none⟩ = some (.int .i64 k) := by rw [cell_of_row w C 1 _ _ _ hS.h]; rfl
  have zC : C < w.heap.size := block_lt_of_cell c1
  clear hN hP hA hS kN kA
  go_enter Try.func17, Try.ntmps17
  go_wp2_with fail
  go_end0
  exact ⟨rfl, E1.out, E2.out⟩
theorem clo_call (N P A C L : Nat) (a b n u : Int) (k : Nat) (w : World) (hn : 0 ≤ n ∧ n ≤ 10) (hk : k ≤ 10) (h1 : N ≠ P ∧ N ≠ A ∧ N ≠ C ∧ N ≠ L ∧ A ≠ P ∧ A ≠ C ∧ A ≠ L) (h : Cl w N P A C L a b n u k) :
    Calls Try.prog 45 #[clo N P A] w (Did w N P A C L a b (n + 1) k k [N, A] (.tuple #[])) := by
  have qf : ∀ w, (binOp .neq 1 (clo N P A) .nilFunc).run Try.prog w = .ok (.bool true) w := fun w => by kernel_rfl
  have R := Lib.hid (clo_runs N P A C L a b n u k w hn hk h1 h)
  clear h h1
  go_enter Try.func45, Try.ntmps45
  go_wp2_with fail
  refine R.out.mono ?_
  rintro e w1 ⟨rfl, h1, h2⟩
  go_wp2_with fail
  go_end0
  exact ⟨rfl, h1, h2⟩
theorem iface_nil_call (N P A C L : Nat) (a b n u : Int) (k : Nat) (w : World) (hn : 0 ≤ n ∧ n ≤ 10) (hk : k ≤ 10) (h1 : N ≠ P ∧ N ≠ A ∧ N ≠ C ∧ N ≠ L ∧ A ≠ P ∧ A ≠ C ∧ A ≠ L) (h : Cl w N P A C L a b n u k) :
    Calls Try.prog 18 #[.nilIface, clo N P A] w (Did w N P A C L a b (n + 1) k k [N, A] (.int .i64 0)) := by
  have R := Lib.hid (clo_call N P A C L a b n u k w hn hk h1 h)
  clear h h1
  go_enter Try.func18, Try.ntmps18
  go_wp2_with fail
  refine R.out.mono ?_
  rintro e w1 ⟨rfl, h1, h2⟩
  have H1 := Lib.hid h1
  have H2 := Lib.hid h2
  clear h1 h2
  go_wp2_with fail
  go_ret
  exact ⟨rfl, H1.out, H2.out⟩
theorem nil_nil (w : World) : Calls Try.prog 18 #[.nilIface, .nilFunc] w fun e w' => e = .returned (.int .i64 0) ∧ w = w' := by
  go_enter Try.func18, Try.ntmps18
  go_wp2_with fail
  refine (nil_call _).mono ?_
  rintro e w1 ⟨rfl, rfl⟩
  go_wp2_with fail
  go_ret
  exact ⟨rfl, rfl⟩
theorem clo_lap (N P A C L : Nat) (a b n u : Int) (w : World) (a0 : -9223372036854775808 ≤ a ∧ a ≤ 9223372036854775807) (b0 : -9223372036854775808 ≤ b ∧ b ≤ 9223372036854775807) (hn : 0 ≤ n ∧ n ≤ 10) (h1 : N ≠ P ∧ N ≠ A ∧ N ≠ C ∧ N ≠ L ∧ A ≠ P ∧ A ≠ C ∧ A ≠ L) (hne : C ≠ L) (hPC : P ≠ C) (h : Cl w N P A C L a b n u 0) :
    Calls Try.prog 18 #[.iface 29 (.pointer (some ⟨C, 0, none⟩)), clo N P A] w (Did w N P A C L a b (n + 1) 1 2 [C, N, A] (.int .i64 (gone a b))) := by
  obtain ⟨d1, d2, d3, d4, d5, d6, d7⟩ := h1
  have N1 := Lib.hid (strange_now C L a b a 0 w (by omega) hne rfl h.hs)
  have T1 := Lib.hid (fun w' (s : Str w' C L a b 1) (k : Kept w w' [C]) => show Cl w' N P A C L a b n u 1 from ⟨h.hn.kept k (by simpa using d3), h.hp.kept k (by simpa using hPC), h.ha.kept k (by simpa using d6), s⟩)
  have R := Lib.hid (fun w h => clo_call N P A C L a b n u 1 w hn (by omega) ⟨d1, d2, d3, d4, d5, d6, d7⟩ h)
  have N2 := Lib.hid (fun w h => strange_now C L a b b 1 w (by omega) hne rfl h)
  have T2 := Lib.hid (fun w1 w' (c : Cl w1 N P A C L a b (n + 1) ((1 : Nat) : Int) 1) (s : Str w' C L a b 2) (k : Kept w1 w' [C]) => show Cl w' N P A C L a b (n + 1) 1 2 from ⟨c.hn.kept k (by simpa using d3), c.hp.kept k (by simpa using hPC), c.ha.kept k (by simpa using d6), s⟩)
  obtain ⟨a0, a1⟩ := a0
  obtain ⟨b0, b1⟩ := b0
  clear h d1 d2 d3 d4 d5 d6 d7
  go_enter Try.func18, Try.ntmps18
  go_wp2_with fail
  refine N1.out.mono ?_
  rintro e w1 ⟨rfl, s1, k1⟩
  have C1 := Lib.hid (T1.out _ s1 k1)
  have K1 := Lib.hid (k1.mono (Ds := [C, N, A]) (by simp))
  clear s1 k1 N1 T1
  go_wp2_with fail
  refine (R.out _ C1.out).mono ?_
  rintro e w2 ⟨rfl, c2, k2⟩
  have C2 := Lib.hid c2
  have K2 := Lib.hid (K1.out.trans (k2.mono (Ds := [C, N, A]) (by simp)))
  clear c2 k2 R K1 C1
  go_wp2_with fail
  refine (N2.out _ C2.out.hs).mono ?_
  rintro e w3 ⟨rfl, s3, k3⟩
  have C3 := Lib.hid (T2.out _ _ C2.out s3 k3)
  have K3 := Lib.hid (K2.out.trans (k3.mono (Ds := [C, N, A]) (by simp)))
  clear s3 k3 N2 T2 K2 C2
  by_cases hlt : b ≤ a
  · have hg : (0 : Int) = gone a b := by unfold gone; rw [if_neg (by omega)]
    have G := Lib.hid hg
    clear hg
    go_wp2_with fail
    go_ret
    exact ⟨ret_i64 G.out, C3.out, K3.out⟩
  · have HA := gone_arith a b a0 a1 b0 b1 (by omega)
    have hlt' : a < b := by omega
    go_wp2_with fail
    all_goals go_ret
    all_goals (refine ⟨ret_i64 ?_, C3.out, K3.out⟩; unfold gone; rw [if_pos hlt']; simp only [IntKind.wrap_u64, HA, wrap64] at *; split <;> omega)
end Go.Proofs.Ytlbkmheggdgfoaa
