/- 'append(l, d)' of one node onto a row of the call's own, whose kids lie in later memory. -/
import Derived.Test.YtakhgjhnljbfiaaGreatDoorOwnt
namespace Go.Proofs.YtakhgjhnljbfiaaGreatDoor
open Go.ChangeShapes Go.WideShapes Go.ChangeAt Go.RowKit
set_option linter.unusedVariables false
set_option linter.unusedSimpArgs false
theorem append_t1 {ops : Array Oper} {rest : List Oper} {o : Oper} {a : Act} {Q : Exit → Act → World → Prop} {W : World} {lim B : Nat} {v : Value} {l : List Nd} {d : Nd} {u : Value} {S : Nat → Prop} (hgd : o.guard = none) (s x : Operand)
    (ho : o.op = .call { callee := .builtin .append, args := #[s, x], argTypes := #[24, 24] }) (hs : a.eval s = v) (hown : OwnT W lim B v l) (hx : a.eval x = .slice (some ⟨W.heap.size, 0, none⟩) 1 1)
    (hk : KidsS W S u d.ks) (hS : ∀ b, S b → offB W lim B v b) (hB : B ≤ W.heap.size) (hlen : l.length ≤ 1000000)
    (h : ∀ v' w', OwnT w' lim B v' (l ++ [d]) → Below B W w' → wpList Tryz.prog ops Q rest (a.put o.dst v') w') : wpList Tryz.prog ops Q (o :: rest) a (W.alloc (.cells #[.int .i64 d.k, .int .i64 d.n, u] 26)) := by
  refine wpList_plain hgd fun K hK => ?_
  have hb : Below W.heap.size W (W.alloc (.cells #[.int .i64 d.k, .int .i64 d.n, u] 26)) := (Below.refl _ _).alloc (Nat.le_refl _) _
  refine wp_append_t (m := 1) (c := 1) (l2 := [d]) (news := [.int .i64 d.k, .int .i64 d.n, u]) (ad := ⟨W.heap.size, 0, none⟩) s x ho hs (hown.below hb) hx rfl ⟨u, [], rfl, ?_, rfl⟩ ?_ (by simp; omega) (by decide) (by omega) ?_
  · exact hk.carry (fun b hb2 => ⟨⟨Nat.lt_of_lt_of_le (hS b hb2).1 (by simp), (hS b hb2).2⟩, hb.block b (hS b hb2).1⟩)
  · intro j u' hj
    exact World.news_of_block (heap_alloc_new W (.cells #[.int .i64 d.k, .int .i64 d.n, u] 26)) j u' (by simpa using hj)
  · intro v' w' h1 h2
    exact hK _ _ (h v' w' h1 (((Below.refl _ _).alloc hB _).grown h2 (by simp; omega) hown.ownLe))
/-- A row's nodes, and what follows. -/
def mkF : List Nd → Fo → Fo
  | [], r => r
  | d :: l, r => .cons d.k d.n d.ks (mkF l r)
theorem mkF_top : ∀ (l : List Nd) (r : Fo), (mkF l r).top = l ++ r.top
  | [], r => rfl
  | d :: l, r => by simp [mkF, Fo.top, mkF_top l r]
theorem mkF_snoc : ∀ (l : List Nd) (d : Nd) (r : Fo), mkF l (.cons d.k d.n d.ks r) = mkF (l ++ [d]) r
  | [], d, r => rfl
  | e :: l, d, r => by simp [mkF, mkF_snoc l d r]
end Go.Proofs.YtakhgjhnljbfiaaGreatDoor
