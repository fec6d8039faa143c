/- LruPlays: the two forms of a list in memory; New where there is no such room. -/
import Derived.Test.YtncpikaegcookaaDl4
import Derived.Test.YtncpikaegcookaaLsa
namespace Go.Proofs.Ytncpikaegcookaa
open Go.ChangeShapes Go.WideShapes Go.ChangeAt Go.RowKit
set_option linter.unusedVariables false
set_option linter.unusedSimpArgs false
theorem dd_of {w : World} {B0 Lb : Nat} {room : Int} {s : List (Int × Int)} {D : Nat → Prop} (h : Lru w B0 Lb room s) (hD : ∀ X, B0 ≤ X → D X) : DD.Lru w D Lb room s := by
  obtain ⟨F, M, v, zs, es, ck, h, e⟩ := h
  exact ⟨F, M, v, zs, es, ck, ⟨h.l, h.f, h.t, h.d, h.k, h.r, h.m, h.e, h.a, h.u, ⟨hD _ h.lo.1, hD _ h.lo.2.1, fun X hX => hD _ (h.lo.2.2.1 X hX), fun z hz => hD _ (h.lo.2.2.2 z hz)⟩, h.sz⟩, e⟩
theorem dd_to {w : World} {Lb : Nat} {room : Int} {s : List (Int × Int)} {D : Nat → Prop} (h : DD.Lru w D Lb room s) : Lru w 0 Lb room s := by
  obtain ⟨F, M, v, zs, es, ck, h, e⟩ := h
  exact ⟨F, M, v, zs, es, ck, ⟨h.l, h.f, h.t, h.d, h.k, h.r, h.m, h.e, h.a, h.u, ⟨Nat.zero_le _, Nat.zero_le _, fun X _ => Nat.zero_le _, fun z _ => Nat.zero_le _⟩, h.sz⟩, e⟩
theorem dd_wide {w : World} {Lb : Nat} {room : Int} {s : List (Int × Int)} {D D' : Nat → Prop} (h : DD.Lru w D Lb room s) (hD : ∀ X, X < w.heap.size → D X → D' X) : DD.Lru w D' Lb room s := by
  obtain ⟨F, M, v, zs, es, ck, h, e⟩ := h
  refine ⟨F, M, v, zs, es, ck, ⟨h.l, h.f, h.t, h.d, h.k, h.r, h.m, h.e, h.a, h.u, ⟨hD _ h.l.lt h.lo.1, hD _ (g_lt h.m) h.lo.2.1, fun X hX => hD _ ?_ (h.lo.2.2.1 X hX), fun z hz => hD _ (g_lt (h.t z hz)) (h.lo.2.2.2 z hz)⟩, h.sz⟩, e⟩
  exact h.f.lt hX
set_option maxRecDepth 100000 in
theorem l_newbad (room : Int) (hr : ¬ (1 ≤ room ∧ room ≤ 64)) (W : World) :
    Calls Try.prog 7 #[.int .i64 room] W fun e w' => e = .returned (.tuple #[.pointer none, .int .i64 2]) ∧ w' = W := by
  by_cases h1 : room < 1
  · clear hr
    go_enter Try.func7, Try.ntmps7
    go_wp2_with fail
    go_ret2
    exact ⟨rfl, rfl⟩
  · have h2 : ¬ room ≤ 64 := fun h => hr ⟨by omega, h⟩
    clear hr
    go_enter Try.func7, Try.ntmps7
    go_wp2_with fail
    go_ret2
    exact ⟨rfl, rfl⟩
end Go.Proofs.Ytncpikaegcookaa
