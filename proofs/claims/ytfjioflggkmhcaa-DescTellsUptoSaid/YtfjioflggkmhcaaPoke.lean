/- A copy whose first node is changed: another tree. -/
import Derived.Test.YtfjioflggkmhcaaPutg
import Derived.Test.YtfjioflggkmhcaaCmpr
namespace Go.Proofs.Ytfjioflggkmhcaa
open Go.ChangeShapes Go.WideShapes Go.ChangeAt Go.RowKit
set_option linter.unusedVariables false
set_option linter.unusedSimpArgs false
theorem xor_one_ne (x : Int) : bits .xor .i64 x 1 ≠ x := by
  intro h
  have h1 : bits .xor .i64 x 1 = IntKind.i64.wrap ((BitVec.ofInt 64 x ^^^ BitVec.ofInt 64 1).toNat : Int) := rfl
  rw [h1] at h
  obtain ⟨y, hy⟩ : ∃ y, BitVec.ofInt 64 x ^^^ BitVec.ofInt 64 1 = y := ⟨_, rfl⟩
  rw [hy] at h
  have h2 : BitVec.ofInt 64 x = y := by
    apply BitVec.eq_of_toNat_eq
    rw [BitVec.toNat_ofInt, ← h, IntKind.wrap_i64]
    have := y.isLt
    omega
  rw [h2] at hy
  have h3 := congrArg (fun z => BitVec.getLsbD z 0) hy
  simp at h3
theorem clone_poke {w : World} {F : Nat} {t : Fo} {q : List Nd} (h : Cloned w F t q) (h0 : 0 < t.len) (hC : t.cnt ≤ 1048576) (n1 : Int) : Kids (w.setCell ⟨F, 1, none⟩ (.int .i64 n1)) (w.setCell ⟨F, 1, none⟩ (.int .i64 n1)).heap.size (kidv F 0 t.len) (t.setk 0 (t.k 0) n1 (t.kids 0)) := by
  obtain ⟨w6, hw⟩ : ∃ w6, w.setCell ⟨F, 1, none⟩ (.int .i64 n1) = w6 := ⟨_, rfl⟩
  rw [hw]
  have hsz : w6.heap.size = w.heap.size := by rw [← hw]; simp
  have hlen := h.top.len
  have hql := h.len
  have hq : q[0]? = some ⟨t.k 0, t.n 0, t.kids 0⟩ := h.top 0 h0
  obtain ⟨c0, c1, c2⟩ := h.laid 0 _ trivial hq
  have c1 : w.cell? ⟨F, 1, none⟩ = some (.int .i64 (t.n 0)) := c1
  have hout : ∀ x, x ≠ 1 → w6.cell? ⟨F, x, none⟩ = w.cell? ⟨F, x, none⟩ := fun x hx => by rw [← hw]; exact World.cell?_setCell_other _ _ _ _ (fun e => hx (by cases e; rfl))
  have hin : w6.cell? ⟨F, 1, none⟩ = some (.int .i64 n1) := by rw [← hw]; exact World.cell?_setCell_same w ⟨F, 1, none⟩ _ c1
  have hL : Laid w6 F t.len q (fun j => j ≠ 0) := fun j d' hne hj => by
    obtain ⟨g0, g1, g2⟩ := h.laid j d' trivial hj
    exact ⟨(hout _ (by omega)).trans g0, (hout _ (by omega)).trans g1, (hout _ (by omega)).trans g2⟩
  obtain ⟨l1, l2⟩ := h.full 0 _ hq
  have hk' : Kids w6 w6.heap.size (kidv F (pos t.len q 0) (t.kids 0).len) (t.kids 0) := by
    refine kidv_kids l2 (laid_at (by rw [hsz]; exact h.blk) hL h.full _ _ l1 (fun u hu y hy => ?_))
    have := hy.le h.rises
    have := h.rises 0 _ hq (by dsimp only; omega)
    omega
  have := laid_put (w := w6) (lim := w6.heap.size) (F := F) (m := t.len) (e := 0) (q := q) (x := (t.k 0, n1, t.kids 0)) (by rw [hsz]; exact h.blk) h.rises h.full hL ⟨(hout _ (by omega)).trans c0, hin, _, (hout _ (by omega)).trans c2, hk'⟩ [] 0 t 0 h.top (Int.le_refl _) (by simpa using h0) rfl rfl (fun a b _ a2 _ b2 hne ha hb => sibs_top (by omega) (by omega) hne ha hb)
  have hk := kidv_kids (by rw [setk_len]; unfold maxLen; omega) this
  rw [setk_len] at hk
  exact hk
theorem cmp_poke (k n : Int) (t : Fo) (h0 : 0 < t.len) (n1 : Int) (hn : n1 ≠ t.n 0) : decide (cmpN k n (t.setk 0 (t.k 0) n1 (t.kids 0)) k n t = 0) = false := by
  have h3 : ∀ x : Int, cmp3 x x = 0 := fun x => by
    unfold cmp3
    repeat' split
    all_goals omega
  cases t with
  | nil => simp [Fo.len] at h0
  | cons k0 n0 c r =>
    have hn : n1 ≠ n0 := hn
    have h4 : cmp3 n1 n0 ≠ 0 := by
      unfold cmp3
      repeat' split
      all_goals omega
    show decide (cmpN k n (.cons k0 n1 c r) k n (.cons k0 n0 c r) = 0) = false
    have : cmpN k n (.cons k0 n1 c r) k n (.cons k0 n0 c r) = cmp3 n1 n0 := by
      unfold cmpN
      rw [fz_cons, h3, if_pos rfl, fz_cons, h3, if_pos rfl, fz_cons, show ((Fo.cons k0 n1 c r).len : Int) = ((Fo.cons k0 n0 c r).len : Int) from rfl, h3, if_pos rfl, fz_one]
      rw [Fo.cmpF, fz_cons, h3, if_pos rfl, fz_cons, if_neg h4]
    rw [this]
    exact decide_eq_false h4
end Go.Proofs.Ytfjioflggkmhcaa
