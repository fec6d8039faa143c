/- 'append(l, make([]uint64, m)...)' onto a row of the call's own: noughts behind. -/
import Derived.Test.YtkijiljipacfjaaOwn
import Derived.Lib.AppendZeros
namespace Go.Proofs.Ytkijiljipacfjaa
open Go.ChangeShapes Go.WideShapes Go.ChangeAt Go.RowKit
set_option linter.unusedVariables false
open Go.Lib
/-- The operation is wanted by its guard. -/
theorem append_run_guarded {ops : Array Oper} {rest : List Oper} {o : Oper} {a : Act} {Q : Exit → Act → World → Prop} (w : World) (hw : Region.wanted o (yielded ops a.tmps) = true) (s x : Operand) (t tn : TypeId)
    (ho : o.op = .call { callee := .builtin .append, args := #[s, x], argTypes := #[t, tn] }) (vs vx : Value) (hs : a.eval s = vs) (hx : a.eval x = vx)
    (v' : Value) (w' : World) (hr : (Builtin.append_ #[t, tn] o.type #[vs, vx]).run Try.prog w = .ok v' w') (h : wpList Try.prog ops Q rest (a.put o.dst v') w') : wpList Try.prog ops Q (o :: rest) a w := by
  show (if _ then _ else _)
  rw [if_pos hw]
  exact .inl (wp_append_run w s x t tn ho vs vx hs hx v' w' hr h)
theorem zeroCells_rep (m : Nat) : (Builtin.zeroCells #[Value.int .u64 0] m).toList = List.replicate m (Value.int .u64 0) := by
  apply List.ext_getElem?
  intro i
  by_cases h : i < m
  · simp [Builtin.zeroCells, h, Nat.mod_one]
  · simp [Builtin.zeroCells, h]
theorem zeroCells_siz (m : Nat) : (Builtin.zeroCells #[Value.int .u64 0] m).size = m := by simp [Builtin.zeroCells]
theorem append_zeros_run {w : World} {B : Nat} {v : Value} {ys : List Int} {m : Nat} (ty : TypeId) (hown : Owns w B 35 .u64 v ys) (hB : B ≤ w.heap.size) (hlen : ys.length + m ≤ 17592186044415) :
    ∃ v' w', (Builtin.append_ #[22, 3] ty #[v, .int .i64 m]).run Try.prog w = .ok v' w' ∧ Owns w' B 35 .u64 v' (ys ++ List.replicate m 0) ∧ Below B w w' := by
  obtain ⟨i, hi, hz, hs, hb⟩ := info_parts info_u64
  have htn : Try.prog.underlying 3 = some (.int .i64) := Try.underlying3
  have ht : Try.prog.underlying 22 = some (.slice 35) := Try.underlying22
  have hw : IntKind.i64.wrap (m : Int) = m := by rw [IntKind.wrap_i64]; omega
  have hneg : ¬ ((m : Int) < 0) := by omega
  have h48i : ¬ (281474976710656 < (m : Int) * (8 : Int)) := by omega
  have hcells : (Value.int .u64 0).cells = #[Value.int .u64 0] := rfl
  generalize hn : ys.length = n at *
  have hown' : w.ownsRow B 35 1 v n (ys.map (Value.int .u64)) := by rw [← hn]; exact hown
  have fin : ∀ (cap : Nat), n + m ≤ cap → cap ≤ maxLen → ∀ W' : World, W'.heap[w.heap.size]? = some (.cells ((ys.map (Value.int .u64)).toArray ++ Builtin.zeroCells #[Value.int .u64 0] m ++ Builtin.zeroCells #[Value.int .u64 0] (cap - (n + m))) 35 (0, 0)) → Owns W' B 35 .u64 (.slice (some ⟨w.heap.size, 0, none⟩) (n + m) cap) (ys ++ List.replicate m 0) := by
    intro cap h1 h2 W' h3
    unfold Owns
    rw [List.length_append, List.length_replicate, hn]
    refine ⟨by simp [hn], .inr ⟨w.heap.size, cap, _, rfl, hB, h3, h1, h2, ?_, ?_⟩⟩
    · simp only [Array.size_append, List.size_toArray, List.length_map, hn, zeroCells_siz]; omega
    · simp only [Array.toList_append, List.append_assoc, zeroCells_rep]
      rw [← List.append_assoc, List.map_append, List.map_replicate]
      have : (n + m) * 1 = (ys.map (Value.int .u64) ++ List.replicate m (Value.int .u64 0)).length := by simp [hn]
      rw [this]
      exact List.take_left
  rcases hown'.2 with ⟨rfl, rfl⟩ | ⟨g, cap, cur, rfl, hbg, hg, hnc, hcm, hcs, htake⟩
  · have hy : ys = [] := List.eq_nil_of_length_eq_zero hn
    subst hy
    by_cases hm : m = 0
    · subst hm
      refine ⟨.slice none 0 0, w, ?_, Owns.nil _ _ _ _, Below.refl _ _⟩
      simp [Builtin.append_, run_underlying ht, run_underlying htn, sizeOf, typeInfo, hi, hs, hb, asInt, asIntOf, hw, show IntKind.i64.wrap (0 : Int) = 0 by decide]
    · have hr := run_append_nil_zeros (P := Try.prog) w 22 3 ty 35 i (.int .u64 0) .i64 .i64 ht htn hi hz m (by omega) (by omega) (by omega) (by rw [hb]; omega)
      refine ⟨_, _, hr, ?_, (Below.refl _ _).drew.alloc hB _⟩
      have := fin (grownCap w m 0 35) (by rw [Nat.zero_add]; exact grownCap_ge _ _ _ _) (grownCap_le_maxLen _ _ _ _ (by unfold maxLen; omega)) (w.drew.alloc (.cells (Builtin.zeroCells (Value.int .u64 0).cells m ++ Builtin.zeroCells (Value.int .u64 0).cells (grownCap w m 0 35 - m)) 35)) (by rw [show w.heap.size = w.drew.heap.size from rfl, heap_alloc_new, hcells]; simp)
      rw [Nat.zero_add] at this
      exact this
  · by_cases hroom : n + m ≤ cap
    · by_cases hm : m = 0
      · subst hm
        refine ⟨_, w, ?_, by rw [List.replicate_zero, List.append_nil]; exact hown, Below.refl _ _⟩
        simp [Builtin.append_, run_underlying ht, run_underlying htn, sizeOf, typeInfo, hi, hs, hb, asInt, asIntOf, hw, show IntKind.i64.wrap (0 : Int) = 0 by decide, hnc, storeCells]
      · have hst := run_storeCells_at Try.prog g n 35 (Builtin.zeroCells #[Value.int .u64 0] m).toList 0 cur w hg (by simp only [Array.length_toList, zeroCells_siz]; omega) (by intro u hu; rw [zeroCells_rep] at hu; rw [List.eq_of_mem_replicate hu]; rfl)
        simp only [Nat.add_zero] at hst
        obtain ⟨cs, hcs2⟩ : ∃ cs, (cur.toList.take n ++ (Builtin.zeroCells #[Value.int .u64 0] m).toList ++ cur.toList.drop (n + (Builtin.zeroCells #[Value.int .u64 0] m).toList.length)).toArray = cs := ⟨_, rfl⟩
        rw [hcs2] at hst
        refine ⟨.slice (some ⟨g, 0, none⟩) (n + m) cap, w.setRow g cs, ?_, ?_, ⟨rfl, rfl, rfl, by simp, fun k hk => setRow_other w g k cs (by omega)⟩⟩
        · simp [Builtin.append_, run_underlying ht, run_underlying htn, sizeOf, typeInfo, zeroValue, hi, hz, hs, hb, asInt, asIntOf, hw, hneg, h48i, hroom, hm, hcells, Addr.add_lit, hst]
        · unfold Owns
          rw [List.length_append, List.length_replicate, hn]
          refine ⟨by simp [hn], .inr ⟨g, cap, cs, rfl, hbg, setRow_heap w g cur cs 35 (0, 0) hg, hroom, hcm, ?_, ?_⟩⟩
          all_goals subst hcs2
          · simp only [List.size_toArray, List.length_append, List.length_take, List.length_drop, Array.length_toList, zeroCells_siz]
            omega
          · rw [Nat.mul_one] at htake
            rw [htake, zeroCells_rep, List.map_append, List.map_replicate]
            have : (n + m) * 1 = (ys.map (Value.int .u64) ++ List.replicate m (Value.int .u64 0)).length := by simp [hn]
            rw [this]
            exact List.take_left
    · have hold := run_firstCells_some (P := Try.prog) w.drew 1 n ⟨g, 0, none⟩ n cap (ys.map (Value.int .u64)) (by simp [hn]) (fun j u hu => hown'.cells (g := g) rfl j u hu)
      have h63' : ¬ (9223372036854775807 < ((n : Int) + (m : Int))) := by omega
      have h48' : ¬ (281474976710656 < Builtin.nextslicecap (n + m) cap * 8) := by have := growslice_fits (need := n + m) (old := cap) (bytes := 8) (by omega) (by omega); omega
      have hm : ¬ m = 0 := by omega
      refine ⟨.slice (some ⟨w.heap.size, 0, none⟩) (n + m) (grownCap w (n + m) cap 35), w.drew.alloc (.cells ((ys.map (Value.int .u64)).toArray ++ Builtin.zeroCells #[Value.int .u64 0] m ++ Builtin.zeroCells #[Value.int .u64 0] (grownCap w (n + m) cap 35 - (n + m))) 35), ?_, ?_, (Below.refl _ _).drew.alloc hB _⟩
      · simp [Builtin.append_, run_underlying ht, run_underlying htn, sizeOf, typeInfo, zeroValue, hi, hz, hs, hb, asInt, asIntOf, hw, hneg, h48i, hroom, hm, hcells, h63', h48', Question.forced, hold, newRow, grownCap]
      · exact fin _ (grownCap_ge _ _ _ _) (grownCap_le_maxLen _ _ _ _ (by unfold maxLen; omega)) _ (by rw [show w.heap.size = w.drew.heap.size from rfl, heap_alloc_new])
end Go.Proofs.Ytkijiljipacfjaa
