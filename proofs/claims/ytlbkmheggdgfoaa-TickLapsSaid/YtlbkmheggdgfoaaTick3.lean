/- Package tick: laps. -/
import Derived.Test.YtlbkmheggdgfoaaLTickGoes
import Derived.Outline
namespace Go.Proofs.Ytlbkmheggdgfoaa
open Go.ChangeShapes Go.WideShapes Go.ChangeAt Go.RowKit
set_option linter.unusedVariables false
set_option maxRecDepth 100000 in
theorem nil_call (w : World) : Calls Try.prog 45 #[.nilFunc] w fun e w' => e = .returned (.tuple #[]) ∧ w = w' := by
  have qf : ∀ w, (binOp .neq 1 .nilFunc .nilFunc).run Try.prog w = .ok (.bool false) w := fun w => by kernel_rfl
  go_enter Try.func45, Try.ntmps45
  go_wp2
  go_end0
  exact ⟨rfl, rfl⟩
/-- How far it goes on. -/
def Lapped (w : World) (B C : Nat) (rest : List Int) (d s q : Int) (e : Ending) (w' : World) : Prop := e = .returned (.int .i64 d) ∧ Clk w' C rest s q ∧ Below B w w'
theorem lap_at (B C : Nat) (xs : List Int) (k : Nat) (w : World) (hB : B ≤ C) (hq : k + 1 ≤ 1000) (h : Clk w C (xs.drop k) (nw xs k) k) : Calls Try.prog 18 #[.iface 24 (.pointer (some ⟨C, 0, none⟩)), .nilFunc] w (Lapped w B C (xs.drop (k + 2)) (nw xs (k + 2) - nw xs (k + 1)) (nw xs (k + 2)) ((k + 2 : Nat) : Int)) := by
  have N1 := Lib.hid (tickGoes.now_at B C xs k w hB (by omega) h)
  have N2 := Lib.hid (fun w h => tickGoes.now_at B C xs (k + 1) w hB (by omega) h)
  have hm : nw xs (k + 1) ≤ nw xs (k + 2) := nw_mono1 xs (k + 1)
  have r0 := nw_rng xs (k + 1)
  have r1 := nw_rng xs (k + 2)
  have E := Lib.hid (show nw xs (k + 1 + 1) = nw xs (k + 2) from rfl)
  clear h
  obtain ⟨r00, r01⟩ := r0
  obtain ⟨r10, r11⟩ := r1
  go_enter Try.func18, Try.ntmps18
  go_wp2_with fail
  refine N1.out.mono ?_
  rintro e w1 ⟨rfl, hk, b1⟩
  have K := Lib.hid hk
  clear hk N1
  go_wp2_with fail
  refine (nil_call _).mono ?_
  rintro e w2 ⟨rfl, rfl⟩
  go_wp2_with fail
  refine (N2.out _ K.out).mono ?_
  rintro e w1 ⟨rfl, hk, b2⟩
  have K2 := Lib.hid hk
  have hB2 := Lib.hid (b1.trans b2)
  clear hk N2 K b1 b2
  by_cases hle : nw xs (k + 2) ≤ nw xs (k + 1)
  · have H0 := Lib.hid (show (0 : Int) = nw xs (k + 2) - nw xs (k + 1) by omega)
    generalize nw xs (k + 2) = t at *
    generalize nw xs (k + 1) = f at *
    go_wp2_with fail
    go_ret
    exact ⟨ret_i64 H0.out, K2.out, hB2.out⟩
  · generalize nw xs (k + 2) = t at *
    generalize nw xs (k + 1) = f at *
    go_wp2_with fail
    go_ret
    exact ⟨rfl, K2.out, hB2.out⟩
end Go.Proofs.Ytlbkmheggdgfoaa
