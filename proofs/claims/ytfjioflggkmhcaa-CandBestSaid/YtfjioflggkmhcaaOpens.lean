/- Rows of descriptors that come in: a reading is a row of trees, and it lies in memory. -/
import Derived.Test.YtfjioflggkmhcaaD11
namespace Go.Proofs.Ytfjioflggkmhcaa
open Go.ChangeShapes Go.WideShapes Go.ChangeAt Go.RowKit
set_option linter.unusedVariables false
open Go.Joins Go.Deep
set_option maxRecDepth 100000 in
theorem trod_fos {H : Type} {enc : TypeId × Value → H} {w : World} {sp : Nat → Bool} {held : Bool} (base fuel : Nat) (v : Value) (x : DataW H × List MemPlace) (e2 : DataW.trod enc Try.prog w base sp held fuel 22 [v] = some x) :
    ∃ ks : Fo, Kids w w.heap.size v ks ∧ ks.wf ∧ ks.cnt + 1 ≤ Rows.uptoBulk x.1 := by
  have hC : Try.prog.cellsOf 24 = 3 := by kernel_rfl
  rcases DataW.trod_slice Try.underlying22 e2 with ⟨hc, hx2⟩ | ⟨a, len, cap, elems, rest, m2, hm2, hc, hx2, hb, hlc, hcm, hle, hels, _, _⟩
  · simp only [List.cons.injEq, and_true] at hc
    subst hc
    refine ⟨.nil, Kids.nought _ _, trivial, ?_⟩
    have := bulks.one_le x.1
    simp [Fo.cnt]; omega
  · simp only [List.cons.injEq, and_true] at hc
    subst hc
    rw [hC] at hels
    -- each element
    have each : ∀ i (hi : i < len), ∃ (k n : Int) (s : Value) (ks : Fo), w.cell? (a.add (i * 3)) = some (.int .i64 k) ∧ (∀ b o, a = ⟨b, o, none⟩ → w.cell? ⟨b, o + i * 3, none⟩ = some (.int .i64 k) ∧ w.cell? ⟨b, o + i * 3 + 1, none⟩ = some (.int .i64 n) ∧ w.cell? ⟨b, o + i * 3 + 2, none⟩ = some s) ∧ Kids w w.heap.size s ks ∧ ks.wf ∧ (-9223372036854775808 ≤ k ∧ k ≤ 9223372036854775807) ∧ (-9223372036854775808 ≤ n ∧ n ≤ 9223372036854775807) ∧ ks.cnt + 1 ≤ Rows.uptoBulk (elems[i]'(by omega)).1 := by
      intro i hi
      have he := hels i hi
      rw [List.getElem?_eq_getElem (show i < elems.length by omega)] at he
      obtain ⟨cs', h1', h2'⟩ := Option.bind_eq_some_iff.1 he
      obtain ⟨k', n', s', ks', rfl, g1, g2, g3, g4, g5⟩ := trod_fo 22 _ _ _ Try.underlying24 Try.underlying22 Try.underlying3 Try.underlying3 rfl rfl rfl (by kernel_rfl) (by kernel_rfl) (by kernel_rfl) (by kernel_rfl) base m2 _ _ h2'
      obtain ⟨_, _, hcell⟩ := World.cells?_some h1'
      refine ⟨k', n', s', ks', ?_, ?_, g1, g2, g3, g4, g5⟩
      · have := hcell 0 (by omega)
        have e : (a.add (i * 3)).add 0 = a.add (i * 3) := by obtain ⟨b, o, sp⟩ := a; cases sp <;> simp [Addr.add]
        rw [e] at this
        simpa using this
      · rintro b o rfl
        have q0 := hcell 0 (by omega)
        have q1 := hcell 1 (by omega)
        have q2 := hcell 2 (by omega)
        rw [add_plain, add_plain] at q0 q1 q2
        exact ⟨by simpa using q0, by simpa using q1, by simpa using q2⟩
    by_cases hz : len = 0
    · subst hz
      refine ⟨.nil, ⟨some a, cap, rfl, by simp [Fo.len], hcm, .inl rfl⟩, trivial, ?_⟩
      have := bulks.one_le x.1
      simp [Fo.cnt]; omega
    · obtain ⟨k0, n0, s0, ks0, hc0, _⟩ := each 0 (by omega)
      obtain ⟨b, o, spot⟩ := a
      have hspot : spot = none := by
        have := World.cell?_spot hc0
        cases spot with
        | none => rfl
        | some q => simp [Addr.add] at this
      subst hspot
      have hblt : b < w.heap.size := by
        obtain ⟨_, _, _, _, _, hh, _⟩ := each 0 (by omega)
        exact block_lt_of_cell (hh b o rfl).1
      have build : ∀ j, j ≤ len → ∃ f : Fo, f.len = j ∧ f.At w w.heap.size b (o + (len - j) * 3) ∧ f.wf ∧ f.cnt ≤ Rows.uptoBulkAll ((elems.drop (len - j)).map (·.1)) := by
        intro j
        induction j with
        | zero => intro _; exact ⟨.nil, rfl, trivial, trivial, by simp [Fo.cnt]⟩
        | succ j ihj =>
          intro hj
          obtain ⟨f, hf1, hf2, hf3, hf4⟩ := ihj (by omega)
          obtain ⟨k', n', s', ks', _, hh, g1, g2, g3, g4, g5⟩ := each (len - (j + 1)) (by omega)
          obtain ⟨q0, q1, q2⟩ := hh b o rfl
          obtain ⟨a', c', rfl, l1, l2, l3⟩ := g1
          have en : len - (j + 1) + 1 = len - j := by omega
          refine ⟨.cons k' n' ks' f, by simp [Fo.len, hf1], ⟨hblt, q0, q1, ⟨a', c', q2, l1, l2, l3⟩, ?_⟩, ⟨g3, g4, g2, hf3⟩, ?_⟩
          · rw [show o + (len - (j + 1)) * 3 + 3 = o + (len - j) * 3 by omega]
            exact hf2
          · rw [List.drop_eq_getElem_cons (show len - (j + 1) < elems.length by omega), en]
            simp only [Fo.cnt, List.map_cons, Rows.uptoBulkAll]
            omega
      obtain ⟨f, hf1, hf2, hf3, hf4⟩ := build len (Nat.le_refl _)
      rw [Nat.sub_self] at hf2 hf4
      simp only [Nat.zero_mul, Nat.add_zero] at hf2
      rw [List.drop_zero] at hf4
      refine ⟨f, ⟨some ⟨b, o, none⟩, cap, by rw [hf1], by omega, hcm, .inr ⟨b, o, rfl, hf2⟩⟩, hf3, ?_⟩
      simp only [Rows.uptoBulk, hx2]
      omega
theorem open_descs {H : Type} {enc : TypeId × Value → H} {w : World} {sp : Nat → Bool} {held : Bool} {base b0 : Nat} {r : Reach} {v : Value} {d : DataW H} {p : List MemPlace} (hv : Value.okWide Try.prog w r b0 22 v) (h : DataW.Trod enc Try.prog w base sp held 22 v d p) :
    ∃ ks : Fo, Kids w w.heap.size v ks ∧ ks.wf ∧ ks.cnt + 1 ≤ Rows.uptoBulk d := by
  obtain ⟨a, n, c, rfl⟩ := okWide_slice Try.underlying22 hv
  obtain ⟨fuel, hf⟩ := h
  obtain ⟨ks, g⟩ := trod_fos base fuel (.slice a n c) _ hf
  exact ⟨ks, g⟩
end Go.Proofs.Ytfjioflggkmhcaa
