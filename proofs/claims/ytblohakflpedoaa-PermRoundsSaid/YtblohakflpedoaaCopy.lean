/- 'copy' into a row of the call's own. -/
import Derived.Test.YtblohakflpedoaaBut
import Derived.Lib.SlBuf
namespace Go.Proofs.Ytblohakflpedoaa
open Go.ChangeShapes Go.WideShapes Go.ChangeAt Go.RowKit
set_option linter.unusedVariables false
theorem put_cons (zs : List Int) (o : Nat) (a : Int) (T : List Int) (h : o + T.length + 1 ≤ zs.length) : (zs.set o a).take (o + 1) ++ T ++ (zs.set o a).drop (o + 1 + T.length) = zs.take o ++ (a :: T) ++ zs.drop (o + (a :: T).length) := by
  have e1 : (zs.set o a).take (o + 1) = zs.take o ++ [a] := by
    rw [List.take_succ_eq_append_getElem (by rw [List.length_set]; omega), List.take_set_of_le (Nat.le_refl _)]
    simp
  have e2 : (zs.set o a).drop (o + 1 + T.length) = zs.drop (o + (a :: T).length) := by
    rw [List.drop_set_of_lt (by omega)]
    congr 1
    simp only [List.length_cons]; omega
  rw [e1, e2]
  simp
theorem rowAt_setCells {B : Nat} {T : TypeId} : ∀ (vs : List Int) (o : Nat) (zs : List Int) (w : World), RowAt w B T zs → o + vs.length ≤ zs.length → RowAt (w.setCells B o (vs.map (Value.int .u64))) B T (zs.take o ++ vs ++ zs.drop (o + vs.length))
  | [], o, zs, w, h, _ => by simpa [World.setCells] using h
  | v :: r, o, zs, w, h, hl => by
    simp only [List.length_cons] at hl
    have := rowAt_setCells r (o + 1) (zs.set o v) (w.setCell ⟨B, o, none⟩ (.int .u64 v)) (h.set o v) (by rw [List.length_set]; omega)
    rw [put_cons zs o v r (by omega)] at this
    exact this
theorem but_setCells {B : Nat} : ∀ (vs : List Value) (o : Nat) (w : World), But w (w.setCells B o vs) B
  | [], _, w => But.refl w B
  | v :: r, o, w => (But.set w B o v).trans (but_setCells r (o + 1) _)
/-- Block B, all else as it was: as Below. -/
theorem But.below {w w' : World} {B : Nat} (h : But w w' B) {H : Nat} (hB : H ≤ B) (hs : H ≤ w.heap.size) : Below H w w' := h.b H hB hs
end Go.Proofs.Ytblohakflpedoaa
