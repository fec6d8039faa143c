/- 'append(l, y)' onto a row of ints of the call's own: the cells that were there stay, wherever the row goes. -/
import Derived.Test.YtcbiennifmfkgaaSiz
import Derived.Test.YtcbiennifmfkgaaRangeb
namespace Go.Proofs.Ytcbiennifmfkgaa
open Go.ChangeShapes Go.WideShapes Go.ChangeAt Go.RowKit
set_option linter.unusedVariables false
set_option linter.unusedSimpArgs false
theorem append_firm {ops : Array Oper} {rest : List Oper} {o : Oper} {a : Act} {Q : Exit → Act → World → Prop} {W : World} {B g c : Nat} {ys : List Int} {y : Int} (hgd : o.guard = none) (s x : Operand)
    (ho : o.op = .call { callee := .builtin .append, args := #[s, x], argTypes := #[22, 22] }) (hs : a.eval s = .slice (some ⟨g, 0, none⟩) ys.length c) (hown : Owns W B 3 .i64 (.slice (some ⟨g, 0, none⟩) ys.length c) ys) (hx : a.eval x = .slice (some ⟨W.heap.size, 0, none⟩) 1 1) (hB : B ≤ W.heap.size) (hlen : ys.length < 17592186044415)
    (h : ∀ g' c' w', Owns w' B 3 .i64 (.slice (some ⟨g', 0, none⟩) (ys.length + 1) c') (ys ++ [y]) → Below B W w' → (∀ j, j < ys.length → w'.cell? ⟨g, j, none⟩ = some (.int .i64 (ys.getD j 0))) → (∀ k, k < W.heap.size → k ≠ g → w'.heap[k]? = W.heap[k]?) → (g' = g ∨ W.heap.size ≤ g') → wpList Try.prog ops Q rest (a.put o.dst (.slice (some ⟨g', 0, none⟩) (ys.length + 1) c')) w') : wpList Try.prog ops Q (o :: rest) a (W.alloc (.cells #[.int .i64 y] 3)) := by
  obtain ⟨i, hi, hz, hsize, hby⟩ := info_parts info_i64
  have hn := heap_alloc_new W (.cells #[.int .i64 y] 3)
  have bb := (Below.refl W.heap.size W).alloc (Nat.le_refl _) (.cells #[.int .i64 y] 3)
  have hsz := World.size_alloc W (.cells #[.int .i64 y] 3)
  obtain ⟨h0, h1⟩ := hown
  rcases h1 with ⟨e, _⟩ | ⟨g0, c0, cur, e, hBg, hg, h3, h4, h5, h6⟩
  · cases e
  simp only [Value.slice.injEq, Option.some.injEq, Addr.mk.injEq, and_true] at e
  obtain ⟨rfl, -, rfl⟩ := e
  have hgl := (Array.getElem?_eq_some_iff.1 hg).1
  have hg1 := (bb.block g hgl).trans hg
  rw [Nat.mul_one] at h5 h6
  have hcl : ys.length ≤ cur.toList.length := by
    have e : cur.toList.length = cur.size := Array.length_toList
    omega
  have hread : ∀ j, j < ys.length → cur[j]? = some (.int .i64 (ys.getD j 0)) := fun j hj => by
    have h7 : (cur.toList.take ys.length)[j]? = (ys.map (Value.int .i64))[j]? := by rw [h6]
    rw [List.getElem?_take_of_lt hj] at h7
    rw [← Array.getElem?_toList, h7]
    simp [List.getD, hj]
  generalize W.alloc (.cells #[.int .i64 y] 3) = w1 at *
  have hnews : ∀ j u, [Value.int .i64 y][j]? = some u → w1.cell? ((⟨W.heap.size, 0, none⟩ : Addr).add j) = some u := fun j u hj => by
    rw [Addr.add_lit, cell_of_row _ _ _ _ _ _ hn]
    simpa using hj
  by_cases hroom : ys.length + 1 ≤ c
  · have hr := run_append_room (P := Try.prog) w1 22 o.type 3 i Try.underlying22 hi g ys.length c cur hg1 ⟨W.heap.size, 0, none⟩ 1 1 [.int .i64 y] (by rw [hsize]; rfl) hnews (by intro u hu; simp at hu; subst hu; rfl) hroom (by rw [hsize, h5]; simp; omega)
    rw [hsize, Nat.mul_one] at hr
    refine wpList_plain hgd fun _ hK => ?_
    unfold Oper.wp execOp
    simp only [ho, resolve, invoke, builtin, Sem.run_bind, Sem.run_pure, Result.andThen_ok, List.map_toArray, List.map_cons, List.map_nil, hs, hx, hr]
    have hst := setRow_heap w1 g cur (cur.toList.take ys.length ++ [Value.int .i64 y] ++ cur.toList.drop (ys.length + [Value.int IntKind.i64 y].length)).toArray 3 (0, 0) hg1
    have hot := fun k (hk : k ≠ g) => setRow_other w1 g k (cur.toList.take ys.length ++ [Value.int .i64 y] ++ cur.toList.drop (ys.length + [Value.int IntKind.i64 y].length)).toArray hk
    have hbw : Below B w1 (w1.setRow g (cur.toList.take ys.length ++ [Value.int .i64 y] ++ cur.toList.drop (ys.length + [Value.int IntKind.i64 y].length)).toArray) := ⟨rfl, rfl, rfl, by simp, fun k hk => hot k (by omega)⟩
    refine hK _ _ (h g c _ ⟨?_, .inr ⟨g, c, _, by simp, hBg, hst, by simp; omega, h4, ?_, ?_⟩⟩ ((bb.mono (by omega)).trans hbw) (fun j hj => ?_) (fun k hk hne => (hot k hne).trans (bb.block k hk)) (.inl rfl))
    · simp
    · simp only [List.size_toArray, List.length_append, List.length_take, List.length_drop, Array.length_toList, List.length_singleton, Nat.mul_one]
      omega
    · rw [h6]
      simp only [List.length_append, List.length_singleton, Nat.mul_one, List.map_append, List.map_cons, List.map_nil]
      exact List.take_left' (by simp)
    · rw [cell_of_row _ _ _ _ _ _ hst]
      have : (cur.toList.take ys.length ++ [Value.int .i64 y] ++ cur.toList.drop (ys.length + [Value.int IntKind.i64 y].length)).toArray[j]? = (cur.toList.take ys.length)[j]? := by
        rw [List.getElem?_toArray, List.append_assoc, List.getElem?_append_left (by rw [List.length_take, Nat.min_eq_left hcl]; exact hj)]
      rw [this, List.getElem?_take_of_lt hj, Array.getElem?_toList]
      exact hread j hj
  · have hr := run_append_grow (P := Try.prog) w1 22 o.type 3 i (.int .i64 0) Try.underlying22 hi hz ⟨g, 0, none⟩ ys.length c (ys.map (Value.int .i64)) (by rw [hsize]; simp) (fun j u hj => by
        have hj' : j < ys.length := by
          by_cases hlt : j < ys.length
          · exact hlt
          · have : (ys.map (Value.int .i64))[j]? = none := by simp; omega
            rw [this] at hj; cases hj
        rw [Addr.add_lit, cell_of_row _ _ _ _ _ _ hg1, Nat.zero_add, hread j hj']
        have e : (ys.map (Value.int .i64))[j]? = some (.int .i64 (ys.getD j 0)) := by simp [List.getD, hj']
        rw [e] at hj; exact hj) ⟨W.heap.size, 0, none⟩ 1 1 [.int .i64 y] (by rw [hsize]; rfl) hnews (by omega) (by omega) (growslice_fits (by omega) (by rw [hby]; omega))
    refine wpList_plain hgd fun _ hK => ?_
    unfold Oper.wp execOp
    simp only [ho, resolve, invoke, builtin, Sem.run_bind, Sem.run_pure, Result.andThen_ok, List.map_toArray, List.map_cons, List.map_nil, hs, hx, hr]
    have hnew := heap_alloc_new w1.drew (.cells ((ys.map (Value.int .i64)).toArray ++ [Value.int .i64 y].toArray ++ Builtin.zeroCells (Value.cells (.int .i64 0)) (grownCap w1 (ys.length + 1) c 3 - (ys.length + 1))) 3)
    have hge := grownCap_ge w1 (ys.length + 1) c 3
    have hcm := grownCap_le_maxLen w1 (ys.length + 1) c 3 (by unfold maxLen; omega)
    have hbw : Below w1.heap.size w1 (w1.drew.alloc (.cells ((ys.map (Value.int .i64)).toArray ++ [Value.int .i64 y].toArray ++ Builtin.zeroCells (Value.cells (.int .i64 0)) (grownCap w1 (ys.length + 1) c 3 - (ys.length + 1))) 3)) := ((Below.refl w1.heap.size w1).drew).alloc (Nat.le_refl _) _
    refine hK _ _ (h _ _ _ ⟨?_, .inr ⟨w1.heap.size, _, _, by simp, by omega, hnew, by simp; omega, hcm, ?_, ?_⟩⟩ ((bb.mono (by omega)).trans (hbw.mono (by omega))) (fun j hj => ?_) (fun k hk hne => (hbw.block k (by omega)).trans (bb.block k hk)) (.inr (by omega)))
    · simp
    · simp only [Array.size_append, List.size_toArray, List.length_map, List.length_singleton, size_zeroCells, Nat.mul_one]
      rw [show (Value.cells (.int .i64 0)).size = 1 from rfl, Nat.mul_one]
      omega
    · simp only [Array.toList_append, List.length_append, List.length_singleton, Nat.mul_one, List.map_append, List.map_cons, List.map_nil]
      exact List.take_left' (by simp)
    · rw [cell_of_row _ _ _ _ _ _ ((hbw.block g (by omega)).trans hg1)]
      exact hread j hj
theorem append_firm' {ops : Array Oper} {rest : List Oper} {o : Oper} {a : Act} {Q : Exit → Act → World → Prop} {W : World} {B g n c : Nat} {ys : List Int} {y : Int} (hn : ys.length = n) (hgd : o.guard = none) (s x : Operand)
    (ho : o.op = .call { callee := .builtin .append, args := #[s, x], argTypes := #[22, 22] }) (hs : a.eval s = .slice (some ⟨g, 0, none⟩) n c) (hown : Owns W B 3 .i64 (.slice (some ⟨g, 0, none⟩) n c) ys) (hx : a.eval x = .slice (some ⟨W.heap.size, 0, none⟩) 1 1) (hB : B ≤ W.heap.size) (hlen : n < 17592186044415)
    (h : ∀ g' c' w', Owns w' B 3 .i64 (.slice (some ⟨g', 0, none⟩) (n + 1) c') (ys ++ [y]) → Below B W w' → (∀ j, j < n → w'.cell? ⟨g, j, none⟩ = some (.int .i64 (ys.getD j 0))) → (∀ k, k < W.heap.size → k ≠ g → w'.heap[k]? = W.heap[k]?) → (g' = g ∨ W.heap.size ≤ g') → wpList Try.prog ops Q rest (a.put o.dst (.slice (some ⟨g', 0, none⟩) (n + 1) c')) w') : wpList Try.prog ops Q (o :: rest) a (W.alloc (.cells #[.int .i64 y] 3)) := by
  subst hn
  exact append_firm hgd s x ho hs hown hx hB hlen h
end Go.Proofs.Ytcbiennifmfkgaa
