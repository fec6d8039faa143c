/- 'append(l, m...)' onto a row of the call's own. -/
import Derived.Test.YthnpbfboedgmpaaVecc
import Derived.Deep.AppendSrc
namespace Go.Proofs.Ythnpbfboedgmpaa
open Go.ChangeShapes Go.WideShapes Go.ChangeAt Go.RowKit
set_option linter.unusedVariables false
theorem append_many {ops : Array Oper} {rest : List Oper} {o : Oper} {a : Act} {Q : Exit → Act → World → Prop} {W : World} {T E : TypeId} {k : IntKind} {B : Nat} {v : Value} {ys zs : List Int} {p : Option Addr} {m c : Nat}
    (hT : Try.prog.underlying T = some (.slice E)) (hI : (Try.prog.info? E).map (fun i => (i.zero, i.size, i.bytes)) = some (some (.int k 0), 1, 8)) (hgd : o.guard = none) (s x : Operand)
    (ho : o.op = .call { callee := .builtin .append, args := #[s, x], argTypes := #[T, T] }) (hs : a.eval s = v) (hown : Owns W B E k v ys) (hx : a.eval x = .slice p m c) (hm : zs.length = m) (hr : Reads k W p zs) (hB : B ≤ W.heap.size) (hlen : ys.length + m ≤ 17592186044415) (hne : 0 < m)
    (h : ∀ v' w', Owns w' B E k v' (ys ++ zs) → Below B W w' → wpList Try.prog ops Q rest (a.put o.dst v') w') : wpList Try.prog ops Q (o :: rest) a W := by
  obtain ⟨i0, hi, hz0, hz1, hz2⟩ := info_parts hI
  rcases hr with hnil | ⟨b, off, rfl, hb, hcell⟩
  · rw [hnil] at hm; simp at hm; omega
  refine wpList_append_lies _ hgd s x T ho B E i0 (.int k 0) 1 8 hT hi hz0 hz1 hz2 rfl (by decide) v ys.length (ys.map (Value.int k)) hs hown ⟨b, off, none⟩ m c (zs.map (Value.int k)) hx (by simpa using hm) ?_ ?_ hne ?_ ?_ hB _ rfl ?_
  · intro j u hj
    have hj' : j < zs.length := by
      by_cases hlt : j < zs.length
      · exact hlt
      · have : (zs.map (Value.int k))[j]? = none := by simp; omega
        rw [this] at hj; cases hj
    have e : (zs.map (Value.int k))[j]? = some (.int k (zs.getD j 0)) := by simp [List.getD, hj']
    rw [e] at hj
    cases hj
    have hadd : (⟨b, off, none⟩ : Addr).add j = ⟨b, off + j, none⟩ := by unfold Addr.add; split <;> simp_all
    rw [hadd]
    exact hcell j hj'
  · intro u hu
    obtain ⟨z, _, rfl⟩ := List.mem_map.1 hu
    rfl
  · unfold maxLen; omega
  · omega
  · intro g cap w' h1 h2 _ _
    refine h _ w' ?_ ((Below.refl _ _).grown h2 hB (fun i hi => (World.ownsRow.lt hown i hi).1))
    unfold Owns
    rw [List.length_append, hm, List.map_append]
    exact h1
theorem append_nought {ops : Array Oper} {rest : List Oper} {o : Oper} {a : Act} {Q : Exit → Act → World → Prop} {W : World} {T E : TypeId} {k : IntKind} {B : Nat} {v : Value} {ys : List Int} {p : Option Addr} {c : Nat}
    (hT : Try.prog.underlying T = some (.slice E)) (hI : (Try.prog.info? E).map (fun i => (i.zero, i.size, i.bytes)) = some (some (.int k 0), 1, 8)) (hgd : o.guard = none) (s x : Operand)
    (ho : o.op = .call { callee := .builtin .append, args := #[s, x], argTypes := #[T, T] }) (hs : a.eval s = v) (hown : Owns W B E k v ys) (hx : a.eval x = .slice p 0 c) (hne : 0 < ys.length)
    (h : wpList Try.prog ops Q rest (a.put o.dst v) W) : wpList Try.prog ops Q (o :: rest) a W := by
  obtain ⟨i0, hi, hz0, hz1, hz2⟩ := info_parts hI
  obtain ⟨q, cap, hv, hr, hcap, _⟩ := hown.shape
  rcases hr with hnil | ⟨b, off, rfl, hb, hcell⟩
  · rw [hnil] at hne; simp at hne
  have hsrc : Src Try.prog i0.size T (.slice p 0 c) 0 [] W := by
    cases p with
    | none => exact Src.ofNil W hT c
    | some ad => exact Src.ofSlice W hT ad 0 c [] (by simp) (fun j u hj => by simp at hj) (fun u hu => by cases hu)
  have hrun := run_append_room_src (P := Try.prog) W T T o.type E i0 hT hi b off ys.length cap _ 0 [] hsrc (by omega) (fun j hj => by simp at hj) (fun j hj => by simp at hj)
  have hset : W.setCells b (off + ys.length * i0.size) [] = W := rfl
  rw [hset] at hrun
  refine wpList_plain hgd fun _ hK => ?_
  unfold Oper.wp execOp
  rw [← hs] at h
  simp only [ho, resolve, invoke, builtin, Sem.run_bind, Sem.run_pure, Result.andThen_ok, List.map_toArray, List.map_cons, List.map_nil, hx]
  rw [hs, hv, hrun]
  rw [hs, hv] at h
  exact hK _ _ h

theorem getD_ext {xs ys : List Int} (hl : xs.length = ys.length) (h : ∀ i, i < xs.length → xs.getD i 0 = ys.getD i 0) : xs = ys := by
  apply List.ext_getElem hl
  intro i h1 h2
  have := h i h1
  simpa [List.getD, h1, h2] using this
theorem revrev (xs : List Int) : revl (revl xs) = redl xs := by
  apply getD_ext (by rw [revl_len, revl_len, redl_len])
  intro i hi
  rw [revl_len, revl_len] at hi
  rw [revl_at _ i (by rw [revl_len]; exact hi), redl_at xs i hi, revl_len, revl_at xs _ (back_lt _ _ hi), back_back _ _ hi, fm_fm]
theorem turn_turn (xs : List Int) (a b c : Nat) (h : (a + b) % xs.length = c) : turnl (turnl xs a) b = turnl xs c := by
  apply getD_ext (by rw [turnl_len, turnl_len, turnl_len])
  intro i hi
  rw [turnl_len, turnl_len] at hi
  rw [turnl_at _ b i (by rw [turnl_len]; exact hi), turnl_len, turnl_at xs c i hi, turnl_at xs a _ (Nat.mod_lt _ (by omega)), fm_fm]
  congr 2
  rw [← h, Nat.mod_add_mod, Nat.add_mod_mod]
  congr 1
  omega
theorem tpos_add (k m : Int) (n : Nat) (h : 0 < n) : (tpos k n + tpos m n) % n = tpos (k + m) n := by
  have h1 := Int.emod_nonneg k (show (n : Int) ≠ 0 by omega)
  have h2 := Int.emod_nonneg m (show (n : Int) ≠ 0 by omega)
  have h3 := Int.emod_nonneg (k + m) (show (n : Int) ≠ 0 by omega)
  have e := Int.add_emod k m n
  unfold tpos
  have e1 : ((k % n).toNat : Int) = k % n := by omega
  have e2 : ((m % n).toNat : Int) = m % n := by omega
  have e3 : (((k + m) % n).toNat : Int) = (k + m) % n := by omega
  have : (((k % n).toNat + (m % n).toNat) % n : Nat) = (((k + m) % n).toNat : Int) := by
    rw [Int.natCast_emod, Int.natCast_add, e1, e2, e3, e]
  exact_mod_cast this
theorem turn_split (xs : List Int) (t : Nat) (h : t < xs.length) : redl (xs.drop t) ++ redl (xs.take t) = turnl xs t := by
  apply getD_ext
  · rw [List.length_append, redl_len, redl_len, turnl_len, List.length_drop, List.length_take]; omega
  · intro i hi
    rw [List.length_append, redl_len, redl_len, List.length_drop, List.length_take] at hi
    rw [turnl_at xs t i (by omega)]
    by_cases h1 : i < xs.length - t
    · have e : (i + t) % xs.length = t + i := by rw [Nat.mod_eq_of_lt (by omega)]; omega
      have l1 : i < (redl (xs.drop t)).length := by rw [redl_len, List.length_drop]; exact h1
      rw [e, List.getD_eq_getElem?_getD, List.getElem?_append_left l1, ← List.getD_eq_getElem?_getD, redl_at _ i (by rw [List.length_drop]; exact h1)]
      congr 1
      simp [List.getD]
    · have e : (i + t) % xs.length = i - (xs.length - t) := by
        rw [show i + t = (i - (xs.length - t)) + xs.length by omega, Nat.add_mod_right, Nat.mod_eq_of_lt (by omega)]
      have l1 : (redl (xs.drop t)).length = xs.length - t := by rw [redl_len, List.length_drop]
      have hlt : i - (xs.length - t) < t := by omega
      rw [e, List.getD_eq_getElem?_getD, List.getElem?_append_right (by omega), ← List.getD_eq_getElem?_getD, l1, redl_at _ _ (by rw [List.length_take]; omega)]
      congr 1
      simp [List.getD, hlt]
end Go.Proofs.Ythnpbfboedgmpaa
