/- LruPlays: a list and the reference's rows side by side. -/
import Derived.Test.YtncpikaegcookaaDlb
namespace Go.Proofs.Ytncpikaegcookaa
open Go.ChangeShapes Go.WideShapes Go.ChangeAt Go.RowKit
set_option linter.unusedVariables false
set_option linter.unusedSimpArgs false
def Out (D : Nat → Prop) (p : Option Addr) : Prop := ∀ a, p = some a → ¬ D a.block
structure LI (W w : World) (S Lb : Nat) (room : Int) (D : Nat → Prop) (s t : List (Int × Int)) (pk : Option Addr) (ck : Nat) (pv : Option Addr) (cv : Nat) : Prop where
  l : DD.Lru w D Lb room s
  r : LR w t pk ck pv cv
  b : w.heap[S]? = some (.cells #[.int .i64 room, .slice pk t.length ck, .slice pv t.length cv] 32 (0, 0))
  dS : ¬ D S
  dk : t = [] ∨ (Out D pk ∧ Out D pv)
  dW : ∀ X, X < W.heap.size → ¬ D X
  dz : ∀ X, D X → X < w.heap.size
  be : Below W.heap.size W w
  hS : W.heap.size ≤ S
theorem DD.Lru.keep {w w' : World} {D : Nat → Prop} {Lb : Nat} {room : Int} {s : List (Int × Int)} (h : DD.Lru w D Lb room s) (ho : ∀ X, D X → w'.heap[X]? = w.heap[X]?) : DD.Lru w' D Lb room s := by
  obtain ⟨F, M, v, zs, es, ck, h, e⟩ := h
  exact ⟨F, M, v, zs, es, ck, ⟨(ho _ h.lo.1).trans h.l, h.f.keep (fun X hX => ho X (h.lo.2.2.1 X hX)), fun z hz => (ho _ (h.lo.2.2.2 z hz)).trans (h.t z hz), h.d, h.k, h.r, (ho _ h.lo.2.1).trans h.m, h.e, h.a, h.u, h.lo, h.sz⟩, e⟩
theorem LI.below {W w w' : World} {S Lb : Nat} {room : Int} {D : Nat → Prop} {s t : List (Int × Int)} {pk : Option Addr} {ck : Nat} {pv : Option Addr} {cv : Nat} (h : LI W w S Lb room D s t pk ck pv cv) (hb : Below w.heap.size w w') : LI W w' S Lb room D s t pk ck pv cv :=
  ⟨h.l.below hb, h.r.below hb, (hb.block _ (g_lt h.b)).trans h.b, h.dS, h.dk, h.dW, fun X hX => Nat.lt_of_lt_of_le (h.dz X hX) hb.size, h.be.trans (hb.mono h.be.size), h.hS⟩
theorem reads_keep {w w' : World} {D : Nat → Prop} {p : Option Addr} {xs : List Int} (h : Reads .i64 w p xs) (hp : Out D p) (hb : BelowD (fun X => D X ∨ w.heap.size ≤ X) w w') : Reads .i64 w' p xs := by
  rcases h with h | ⟨b, o, rfl, hlt, hc⟩
  · exact .inl h
  · have hbl := hb.block b hlt (fun e => e.elim (hp _ rfl) (fun e => by omega))
    refine .inr ⟨b, o, rfl, Nat.lt_of_lt_of_le hlt hb.size, fun i hi => ?_⟩
    rw [← hc i hi]
    unfold World.cell?
    simp only [hbl]
def Dn (D : Nat → Prop) (w : World) : Nat → Prop := fun X => D X ∨ w.heap.size ≤ X
theorem Dn.up (D : Nat → Prop) (w : World) : Up (Dn D w) w.heap.size := fun _ h => .inr h
theorem LI.lw {W w : World} {S Lb : Nat} {room : Int} {D : Nat → Prop} {s t : List (Int × Int)} {pk : Option Addr} {ck : Nat} {pv : Option Addr} {cv : Nat} (h : LI W w S Lb room D s t pk ck pv cv) : DD.Lru w (Dn D w) Lb room s := dd_wide h.l (fun _ _ h => .inl h)
/-- The list has been called. -/
theorem LI.lru {W w w' : World} {S Lb : Nat} {room : Int} {D : Nat → Prop} {s t s' : List (Int × Int)} {pk : Option Addr} {ck : Nat} {pv : Option Addr} {cv : Nat} (h : LI W w S Lb room D s t pk ck pv cv) (hl : DD.Lru w' (Dn D w) Lb room s') (hb : BelowD (Dn D w) w w') :
    LI W w' S Lb room (fun X => Dn D w X ∧ X < w'.heap.size) s' t pk ck pv cv := by
  have hS := g_lt h.b
  have nk : ∀ X, X < w.heap.size → ¬ D X → ¬ (Dn D w X ∧ X < w'.heap.size) := fun X hX hn e => e.1.elim hn (fun e => by omega)
  have keep : ∀ p xs, Reads .i64 w p xs → (xs = [] ∨ Out D p) → Reads .i64 w' p xs := fun p xs hr ho => by
    rcases ho with ho | ho
    · exact .inl ho
    · exact reads_keep hr ho hb
  have out : ∀ p xs, xs ≠ [] → Reads .i64 w p xs → Out D p → Out (fun X => Dn D w X ∧ X < w'.heap.size) p := fun p xs hne hr ho => by
    rcases hr with hr | ⟨b, o, rfl, hlt, -⟩
    · exact absurd hr hne
    · exact fun a e => by cases e; exact nk _ hlt (ho _ rfl)
  have kd : t = [] ∨ (t.map Prod.fst ≠ [] ∧ t.map Prod.snd ≠ []) := by
    cases t with
    | nil => exact .inl rfl
    | cons p r => exact .inr ⟨by simp, by simp⟩
  refine ⟨dd_wide hl (fun X hX h => ⟨h, hX⟩), ⟨keep _ _ h.r.k ?_, keep _ _ h.r.v ?_, h.r.ck, h.r.cv, h.r.n⟩, (hb.block S hS (fun e => e.elim h.dS (fun e => by omega))).trans h.b, nk S hS h.dS, ?_, fun X hX => nk X (by have := h.be.size; omega) (h.dW X hX), fun X hX => hX.2, ?_, h.hS⟩
  · rcases h.dk with e | e
    · exact .inl (by rw [e]; rfl)
    · exact .inr e.1
  · rcases h.dk with e | e
    · exact .inl (by rw [e]; rfl)
    · exact .inr e.2
  · rcases h.dk with e | e
    · exact .inl e
    · rcases kd with k | k
      · exact .inl k
      · exact .inr ⟨out _ _ k.1 h.r.k e.1, out _ _ k.2 h.r.v e.2⟩
  · exact h.be.trans ⟨hb.os, hb.tape, hb.output, hb.size, fun X hX => hb.block X (by have := h.be.size; omega) (fun e => e.elim (h.dW X hX) (fun e => by have := h.be.size; omega))⟩
theorem near_out {W w : World} {S Lb : Nat} {room : Int} {D : Nat → Prop} {s t t' : List (Int × Int)} {pk : Option Addr} {ck : Nat} {pv : Option Addr} {cv : Nat} {qk qv : Option Addr} (h : LI W w S Lb room D s t pk ck pv cv) (h1 : Near w.heap.size pk qk) (h2 : Near w.heap.size pv qv) (ht : t = [] → t' = []) : t' = [] ∨ (Out D qk ∧ Out D qv) := by
  have fr : ∀ q, Fresh w.heap.size q → Out D q := fun q hq a e hD => by have := hq a e; have := h.dz _ hD; omega
  rcases h.dk with e | e
  · exact .inl (ht e)
  · exact .inr ⟨h1.elim (fun e2 => by rw [e2]; exact e.1) (fr _), h2.elim (fun e2 => by rw [e2]; exact e.2) (fr _)⟩
theorem fresh_out {W w : World} {S Lb : Nat} {room : Int} {D : Nat → Prop} {s t t' : List (Int × Int)} {pk : Option Addr} {ck : Nat} {pv : Option Addr} {cv : Nat} {qk qv : Option Addr} (h : LI W w S Lb room D s t pk ck pv cv) (h1 : Fresh w.heap.size qk) (h2 : Fresh w.heap.size qv) : t' = [] ∨ (Out D qk ∧ Out D qv) :=
  .inr ⟨fun a e hD => by have := h1 a e; have := h.dz _ hD; omega, fun a e hD => by have := h2 a e; have := h.dz _ hD; omega⟩
/-- The reference has been called, and its answer lies in the box. -/
theorem LI.ref {W w w' : World} {S Lb : Nat} {room : Int} {D : Nat → Prop} {s t t' : List (Int × Int)} {pk : Option Addr} {ck : Nat} {pv : Option Addr} {cv : Nat} {qk : Option Addr} {dk : Nat} {qv : Option Addr} {dv : Nat} (h : LI W w S Lb room D s t pk ck pv cv) (hb : Below w.heap.size w w') (hr : LR w' t' qk dk qv dv) (ho : t' = [] ∨ (Out D qk ∧ Out D qv)) :
    LI W (((w'.setCell ⟨S, 0, none⟩ (.int .i64 room)).setCell ⟨S, 1, none⟩ (.slice qk t'.length dk)).setCell ⟨S, 2, none⟩ (.slice qv t'.length dv)) S Lb room D s t' qk dk qv dv := by
  have h' := h.below hb
  refine ⟨h'.l.keep (fun X hX => ?_), hr.put3 h'.b, row_put3 h'.b, h.dS, ho, h.dW, fun X hX => by have := h'.dz X hX; simpa using this, below_put3 h'.be h.hS _ _ _, h.hS⟩
  have hne : X ≠ S := fun e => h.dS (e ▸ hX)
  rw [heap_setCell_other _ _ _ _ hne, heap_setCell_other _ _ _ _ hne, heap_setCell_other _ _ _ _ hne]
end Go.Proofs.Ytncpikaegcookaa
