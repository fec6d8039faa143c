/- 'copy' of ints into a row of the call's own. -/
import Derived.Test.YtblohakflpedoaaBut
import Derived.Test.YtblohakflpedoaaRowset
import Derived.Test.YtblohakflpedoaaRowi
import Derived.Test.YtblohakflpedoaaCopy
import Derived.Lib.SlBuf
namespace Go.Proofs.Ytblohakflpedoaa
open Go.ChangeShapes Go.WideShapes Go.ChangeAt Go.RowKit
set_option linter.unusedVariables false
theorem size_i64c : (Try.prog.info? 3).map (·.size) = some 1 := by kernel_rfl
theorem rowAtI_setCells {B : Nat} {T : TypeId} : ∀ (vs : List Int) (o : Nat) (zs : List Int) (w : World), RowAtI w B T zs → o + vs.length ≤ zs.length → RowAtI (w.setCells B o (vs.map (Value.int .i64))) B T (zs.take o ++ vs ++ zs.drop (o + vs.length))
  | [], o, zs, w, h, _ => by simpa [World.setCells] using h
  | v :: r, o, zs, w, h, hl => by
    simp only [List.length_cons] at hl
    have := rowAtI_setCells r (o + 1) (zs.set o v) (w.setCell ⟨B, o, none⟩ (.int .i64 v)) (h.set o v) (by rw [List.length_set]; omega)
    rw [put_cons zs o v r (by omega)] at this
    exact this
theorem run_copy_i64 {w : World} {B m dc n sc : Nat} {p : Option Addr} {xs zs : List Int} (ty : TypeId) (hB : RowAtI w B 3 zs) (hm : zs.length = m) (hx : RowI w p n xs) (hn : n ≤ m) :
    ∃ w', (Builtin.copy_ #[22, 22] ty #[.slice (some ⟨B, 0, none⟩) m dc, .slice p n sc]).run Try.prog w = .ok (goInt n) w' ∧ RowAtI w' B 3 (xs ++ zs.drop n) ∧ But w w' B := by
  have hl := hx.len
  by_cases h0 : n = 0
  · subst h0
    have e := List.length_eq_zero_iff.1 hl
    subst e
    exact ⟨w, run_copy_none w _ _ ty 3 _ _ _ _ _ _ Try.underlying22 size_i64c (by simp), by simpa using hB, But.refl _ _⟩
  · obtain ⟨b, off, rfl, _, _, _, _⟩ := hx.cell (k := 0) (by omega)
    have hc : ∀ k, k < n → w.cell? ⟨b, off + k, none⟩ = some (.int .i64 (xs.getD k 0)) := fun k hk => by
      obtain ⟨b', off', e, _, h, _, _⟩ := hx.cell hk
      cases e; exact h
    have := run_copy_cells (P := Try.prog) w 22 22 ty 3 B 0 m dc ⟨b, off, none⟩ n sc (xs.map (Value.int .i64)) Try.underlying22 size_i64c (by rw [List.length_map, hl]; exact (Nat.min_eq_left hn).symm) ?_ ?_ ?_ ?_
    · rw [List.length_map, hl] at this
      refine ⟨_, this, ?_, but_setCells _ _ _⟩
      have r := rowAtI_setCells xs 0 zs w hB (by omega)
      rw [List.take_zero, List.nil_append, Nat.zero_add, hl] at r
      exact r
    · intro j v hj
      have hj' : j < n := by
        by_cases hlt : j < n
        · exact hlt
        · have : (xs.map (Value.int .i64))[j]? = none := by simp; omega
          rw [this] at hj; cases hj
      have e : (xs.map (Value.int .i64))[j]? = some (.int .i64 (xs.getD j 0)) := by simp [List.getD, show j < xs.length by omega]
      rw [e] at hj
      cases hj
      have hadd : (⟨b, off, none⟩ : Addr).add j = ⟨b, off + j, none⟩ := by unfold Addr.add; split <;> simp_all
      rw [hadd]
      exact hc j hj'
    · intro j hj
      rw [List.length_map, hl] at hj
      rw [Nat.zero_add, hB.cell (k := j) (by omega)]
      rfl
    · intro j _
      exact hB.free (0 + j)
    · intro v hv
      obtain ⟨z, _, rfl⟩ := List.mem_map.1 hv
      rfl
end Go.Proofs.Ytblohakflpedoaa
