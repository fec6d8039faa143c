/- Nodes level by level: how the list of all nodes grows: numbers. -/
import Derived.Test.YtfjioflggkmhcaaLay
namespace Go.Proofs.Ytfjioflggkmhcaa
open Go.ChangeShapes Go.WideShapes Go.ChangeAt Go.RowKit
set_option linter.unusedVariables false
set_option linter.unusedSimpArgs false
theorem Ly.append {q r : List Nd} {f : Fo} {s : Nat} (h : Ly q f s) : Ly (q ++ r) f s := fun t ht => by
  have := h t ht
  rw [List.getElem?_append_left (List.getElem?_eq_some_iff.1 this).1]
  exact this
theorem Ly.of_top (q : List Nd) (f : Fo) : Ly (q ++ f.top) f q.length := fun t ht => by
  rw [List.getElem?_append_right (by omega), show q.length + t - q.length = t by omega]
  exact Fo.top_at f t ht
/-- The list q of nodes, behind i of them. -/
structure Lv (f : Fo) (q : List Nd) (i : Nat) : Prop where
  top : Ly q f 0
  le : i ≤ q.length
  cnt : q.length + kin (q.drop i) = f.cnt
  nx : pos f.len q i = q.length
  ly : ∀ j d, j < i → q[j]? = some d → Ly q d.ks (pos f.len q j)
  up : ∀ j, j < i → j < pos f.len q j
theorem Lv.start (f : Fo) : Lv f f.top 0 := by
  refine ⟨fun t ht => ?_, Nat.zero_le _, ?_, ?_, fun j d h => by omega, fun j h => by omega⟩
  · rw [Nat.zero_add]; exact Fo.top_at f t ht
  · rw [List.drop_zero, Fo.top_len]; exact (Fo.top_kin f).symm
  · rw [pos_zero, Fo.top_len]
theorem drop_at {q : List Nd} {i : Nat} {d : Nd} (hd : q[i]? = some d) : q.drop i = d :: q.drop (i + 1) := by
  obtain ⟨h1, h2⟩ := List.getElem?_eq_some_iff.1 hd
  rw [← h2]; exact List.drop_eq_getElem_cons h1
theorem Lv.room {f : Fo} {q : List Nd} {i : Nat} (h : Lv f q i) {d : Nd} (hd : q[i]? = some d) : q.length + d.ks.len ≤ f.cnt := by
  have h1 := h.cnt
  have h2 := Fo.top_kin d.ks
  rw [drop_at hd, kin] at h1
  omega
theorem Lv.step {f : Fo} {q : List Nd} {i : Nat} (h : Lv f q i) {d : Nd} (hd : q[i]? = some d) : Lv f (q ++ d.ks.top) (i + 1) := by
  have hlt := (List.getElem?_eq_some_iff.1 hd).1
  have hdi : (q ++ d.ks.top)[i]? = some d := by rw [List.getElem?_append_left hlt]; exact hd
  have hp : pos f.len (q ++ d.ks.top) i = q.length := by rw [pos_append _ _ _ _ h.le]; exact h.nx
  refine ⟨h.top.append, by simp; omega, ?_, ?_, fun j e hj he => ?_, fun j hj => ?_⟩
  · have h1 := h.cnt
    have h2 := Fo.top_kin d.ks
    rw [drop_at hd, kin] at h1
    rw [List.drop_append_of_le_length (by omega), kin_append, List.length_append, Fo.top_len]
    omega
  · rw [pos_succ _ _ _ _ hdi, hp, List.length_append, Fo.top_len]
  · by_cases e1 : j = i
    · subst e1
      rw [hdi] at he; cases he
      rw [hp]
      exact Ly.of_top q _
    · have hj2 : j < q.length := by omega
      rw [List.getElem?_append_left hj2] at he
      rw [pos_append _ _ _ _ (by omega)]
      exact (h.ly j e (by omega) he).append
  · by_cases e1 : j = i
    · subst e1; rw [hp]; exact hlt
    · rw [pos_append _ _ _ _ (by omega)]
      exact h.up j (by omega)
theorem Lv.lens {f : Fo} {q : List Nd} {i : Nat} (h : Lv f q i) : q.length ≤ f.cnt := by have := h.cnt; omega
theorem Ly.len {q : List Nd} {f : Fo} {s : Nat} (h : Ly q f s) : f.len ≤ q.length := by
  cases hf : f.len with
  | zero => omega
  | succ l =>
    have := (List.getElem?_eq_some_iff.1 (h l (by omega))).1
    omega
theorem Lv.done {f : Fo} {q : List Nd} (h : Lv f q q.length) (hC : f.cnt ≤ 1048576) : q.length = f.cnt ∧ Full f.len q ∧ Rises f.len q := by
  have h1 := h.cnt
  rw [List.drop_length] at h1
  refine ⟨by simpa [kin] using h1, fun j d hj => ?_, fun j d hj _ => h.up j (List.getElem?_eq_some_iff.1 hj).1⟩
  have := h.ly j d (List.getElem?_eq_some_iff.1 hj).1 hj
  have h2 := this.len
  have h3 := h.lens
  exact ⟨this, by unfold maxLen; omega⟩
end Go.Proofs.Ytfjioflggkmhcaa
