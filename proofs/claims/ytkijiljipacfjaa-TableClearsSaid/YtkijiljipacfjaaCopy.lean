/- 'copy' into a row of the call's own. -/
import Derived.Test.YtkijiljipacfjaaBut
import Derived.Lib.SlBuf
namespace Go.Proofs.Ytkijiljipacfjaa
open Go.ChangeShapes Go.WideShapes Go.ChangeAt Go.RowKit
set_option linter.unusedVariables false
theorem size_u64 : (Try.prog.info? 35).map (·.size) = some 1 := by kernel_rfl
theorem put_cons (zs : List Int) (o : Nat) (a : Int) (T : List Int) (h : o + T.length + 1 ≤ zs.length) : (zs.set o a).take (o + 1) ++ T ++ (zs.set o a).drop (o + 1 + T.length) = zs.take o ++ (a :: T) ++ zs.drop (o + (a :: T).length) := by
  have e1 : (zs.set o a).take (o + 1) = zs.take o ++ [a] := by
    rw [List.take_succ_eq_append_getElem (by rw [List.length_set]; omega), List.take_set_of_le (Nat.le_refl _)]
    simp
  have e2 : (zs.set o a).drop (o + 1 + T.length) = zs.drop (o + (a :: T).length) := by
    rw [List.drop_set_of_lt (by omega)]
    congr 1
    simp only [List.length_cons]; omega
  rw [e1, e2]
  simp
theorem rowAt_setCells {B : Nat} {T : TypeId} : ∀ (vs : List Int) (o : Nat) (zs : List Int) (w : World), RowAt w B T zs → o + vs.length ≤ zs.length → RowAt (w.setCells B o (vs.map (Value.int .u64))) B T (zs.take o ++ vs ++ zs.drop (o + vs.length))
  | [], o, zs, w, h, _ => by simpa [World.setCells] using h
  | v :: r, o, zs, w, h, hl => by
    simp only [List.length_cons] at hl
    have := rowAt_setCells r (o + 1) (zs.set o v) (w.setCell ⟨B, o, none⟩ (.int .u64 v)) (h.set o v) (by rw [List.length_set]; omega)
    rw [put_cons zs o v r (by omega)] at this
    exact this
theorem but_setCells {B : Nat} : ∀ (vs : List Value) (o : Nat) (w : World), But w (w.setCells B o vs) B
  | [], _, w => But.refl w B
  | v :: r, o, w => (But.set w B o v).trans (but_setCells r (o + 1) _)
theorem run_copy_u64 {w : World} {B m dc n sc : Nat} {p : Option Addr} {xs zs : List Int} (ty : TypeId) (hB : RowAt w B 35 zs) (hm : zs.length = m) (hx : Row w p n xs) (hn : n ≤ m) :
    ∃ w', (Builtin.copy_ #[22, 22] ty #[.slice (some ⟨B, 0, none⟩) m dc, .slice p n sc]).run Try.prog w = .ok (goInt n) w' ∧ RowAt w' B 35 (xs ++ zs.drop n) ∧ But w w' B := by
  have hl := hx.len
  by_cases h0 : n = 0
  · subst h0
    have e := List.length_eq_zero_iff.1 hl
    subst e
    exact ⟨w, run_copy_none w _ _ ty 35 _ _ _ _ _ _ Try.underlying22 size_u64 (by simp), by simpa using hB, But.refl _ _⟩
  · obtain ⟨b, off, rfl, _, _⟩ := hx.cell (k := 0) (by omega)
    have hc : ∀ k, k < n → w.cell? ⟨b, off + k, none⟩ = some (.int .u64 (xs.getD k 0)) := fun k hk => by
      obtain ⟨b', off', e, _, h, _⟩ := hx.cell hk
      cases e; exact h
    have := run_copy_cells (P := Try.prog) w 22 22 ty 35 B 0 m dc ⟨b, off, none⟩ n sc (xs.map (Value.int .u64)) Try.underlying22 size_u64 (by rw [List.length_map, hl]; exact (Nat.min_eq_left hn).symm) ?_ ?_ ?_ ?_
    · rw [List.length_map, hl] at this
      refine ⟨_, this, ?_, but_setCells _ _ _⟩
      have r := rowAt_setCells xs 0 zs w hB (by omega)
      rw [List.take_zero, List.nil_append, Nat.zero_add, hl] at r
      exact r
    · intro j v hj
      have hj' : j < n := by
        by_cases hlt : j < n
        · exact hlt
        · have : (xs.map (Value.int .u64))[j]? = none := by simp; omega
          rw [this] at hj; cases hj
      have e : (xs.map (Value.int .u64))[j]? = some (.int .u64 (xs.getD j 0)) := by simp [List.getD, show j < xs.length by omega]
      rw [e] at hj
      cases hj
      have hadd : (⟨b, off, none⟩ : Addr).add j = ⟨b, off + j, none⟩ := by unfold Addr.add; split <;> simp_all
      rw [hadd]
      exact hc j hj'
    · intro j hj
      rw [List.length_map, hl] at hj
      rw [Nat.zero_add, hB.cell (k := j) (by omega)]
      rfl
    · intro j _
      exact hB.free (0 + j)
    · intro v hv
      obtain ⟨z, _, rfl⟩ := List.mem_map.1 hv
      rfl
/-- Block B, all else as it was: as Below. -/
theorem But.below {w w' : World} {B : Nat} (h : But w w' B) {H : Nat} (hB : H ≤ B) (hs : H ≤ w.heap.size) : Below H w w' := h.b H hB hs
end Go.Proofs.Ytkijiljipacfjaa
