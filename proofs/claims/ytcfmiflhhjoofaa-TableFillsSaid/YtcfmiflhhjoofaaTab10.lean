/- Package table: Fill. -/
import Derived.Test.YtcfmiflhhjoofaaM49
import Derived.Test.YtcfmiflhhjoofaaM47
namespace Go.Proofs.Ytcfmiflhhjoofaa
open Go.ChangeShapes Go.WideShapes Go.ChangeAt Go.RowKit
set_option linter.unusedVariables false
open rootTells
/-- Block B begins with the numbers ys. -/
def Pre (w : World) (B : Nat) (T : TypeId) (ys : List Int) : Prop := ∃ cur, w.heap[B]? = some (.cells cur T (0, 0)) ∧ cur.toList.take ys.length = ys.map (Value.int .u64)
theorem Pre.lt {w : World} {B : Nat} {T : TypeId} {ys : List Int} (h : Pre w B T ys) : B < w.heap.size := by
  obtain ⟨cur, h, _⟩ := h
  exact Nat.lt_of_not_le fun hn => by rw [Array.getElem?_eq_none hn] at h; cases h
theorem Pre.cell {w : World} {B : Nat} {T : TypeId} {ys : List Int} (h : Pre w B T ys) {k : Nat} (hk : k < ys.length) : w.cell? ⟨B, k, none⟩ = some (.int .u64 (ys.getD k 0)) := by
  obtain ⟨cur, h, e⟩ := h
  rw [cell_of_row w B k _ _ _ h, ← Array.getElem?_toList]
  have : (cur.toList.take ys.length)[k]? = cur.toList[k]? := List.getElem?_take_of_lt hk
  rw [← this, e]
  simp [List.getD, hk]
theorem Pre.reads {w : World} {B : Nat} {T : TypeId} {ys : List Int} (h : Pre w B T ys) : Reads .u64 w (some ⟨B, 0, none⟩) ys :=
  .inr ⟨B, 0, rfl, h.lt, fun i hi => by rw [Nat.zero_add]; exact h.cell hi⟩
theorem Pre.but {w w' : World} {B C : Nat} {T : TypeId} {ys : List Int} (h : Pre w B T ys) (hb : But w w' C) (hne : B ≠ C) : Pre w' B T ys := by
  have hl := h.lt
  obtain ⟨cur, h, e⟩ := h
  exact ⟨cur, (hb.o B hl hne).trans h, e⟩
theorem Pre.below {w w' : World} {B : Nat} {T : TypeId} {ys : List Int} (h : Pre w B T ys) (hb : Below w.heap.size w w') : Pre w' B T ys := by
  have hl := h.lt
  obtain ⟨cur, h, e⟩ := h
  exact ⟨cur, (hb.block B hl).trans h, e⟩
theorem Owns.pre {w : World} {B : Nat} {E : TypeId} {v : Value} {ys : List Int} (h : Owns w B E .u64 v ys) (h0 : 0 < ys.length) : ∃ g cap, v = .slice (some ⟨g, 0, none⟩) ys.length cap ∧ B ≤ g ∧ Pre w g E ys := by
  obtain ⟨hl, h | ⟨g, cap, cur, rfl, hb, hh, hn, hm, hs, ht⟩⟩ := h
  · omega
  · refine ⟨g, cap, rfl, hb, cur, hh, ?_⟩
    rw [Nat.mul_one] at ht
    exact ht
theorem put_cons' (zs : List Value) (o : Nat) (a : Value) (T : List Value) (h : o + T.length + 1 ≤ zs.length) : (zs.set o a).take (o + 1) ++ T ++ (zs.set o a).drop (o + 1 + T.length) = zs.take o ++ (a :: T) ++ zs.drop (o + (a :: T).length) := by
  have e1 : (zs.set o a).take (o + 1) = zs.take o ++ [a] := by
    rw [List.take_succ_eq_append_getElem (by rw [List.length_set]; omega), List.take_set_of_le (Nat.le_refl _)]
    simp
  have e2 : (zs.set o a).drop (o + 1 + T.length) = zs.drop (o + (a :: T).length) := by
    rw [List.drop_set_of_lt (by omega)]
    congr 1
    simp only [List.length_cons]; omega
  rw [e1, e2]
  simp
theorem cells_setCells {B : Nat} {T : TypeId} : ∀ (vs : List Value) (o : Nat) (cur : Array Value) (w : World), w.heap[B]? = some (.cells cur T (0, 0)) → o + vs.length ≤ cur.size →
    ∃ cur', (w.setCells B o vs).heap[B]? = some (.cells cur' T (0, 0)) ∧ cur'.toList = cur.toList.take o ++ vs ++ cur.toList.drop (o + vs.length)
  | [], o, cur, w, h, _ => ⟨cur, h, by simp⟩
  | v :: r, o, cur, w, h, hl => by
    simp only [List.length_cons] at hl
    obtain ⟨cur', h1, h2⟩ := cells_setCells r (o + 1) (cur.setIfInBounds o v) (w.setCell ⟨B, o, none⟩ v) (heap_setCell_same w B o _ T _ h) (by rw [Array.size_setIfInBounds]; omega)
    refine ⟨cur', h1, ?_⟩
    rw [h2, Array.toList_setIfInBounds, put_cons' cur.toList o v r (by rw [Array.length_toList]; omega)]
theorem run_copy_pre {w : World} {B dc n sc : Nat} {p : Option Addr} {xs zs : List Int} (ty : TypeId) (hB : Pre w B 43 zs) (hm : zs.length = n) (hx : Row w p n xs) :
    ∃ w', (Builtin.copy_ #[25, 25] ty #[.slice (some ⟨B, 0, none⟩) n dc, .slice p n sc]).run Try.prog w = .ok (goInt n) w' ∧ Pre w' B 43 xs ∧ But w w' B := by
  have hl := hx.len
  by_cases h0 : n = 0
  · subst h0
    have e := List.length_eq_zero_iff.1 hl
    have e2 := List.length_eq_zero_iff.1 hm
    subst e e2
    exact ⟨w, run_copy_none w _ _ ty 43 _ _ _ _ _ _ Try.underlying25 size_u64 (by simp), hB, But.refl _ _⟩
  · obtain ⟨b, off, rfl, _, _⟩ := hx.cell (k := 0) (by omega)
    have hc : ∀ k, k < n → w.cell? ⟨b, off + k, none⟩ = some (.int .u64 (xs.getD k 0)) := fun k hk => by
      obtain ⟨b', off', e, _, h, _⟩ := hx.cell hk
      cases e; exact h
    have := run_copy_cells (P := Try.prog) w 25 25 ty 43 B 0 n dc ⟨b, off, none⟩ n sc (xs.map (Value.int .u64)) Try.underlying25 size_u64 (by rw [List.length_map, hl]; exact (Nat.min_self n).symm) ?_ ?_ ?_ ?_
    · rw [List.length_map, hl] at this
      refine ⟨_, this, ?_, but_setCells _ _ _⟩
      obtain ⟨cur, h1, h2⟩ := hB
      have hsz : n ≤ cur.size := by
        have := congrArg List.length h2
        rw [List.length_take, List.length_map, hm] at this
        rw [← Array.length_toList]; omega
      obtain ⟨cur', g1, g2⟩ := cells_setCells (xs.map (Value.int .u64)) 0 cur w h1 (by rw [List.length_map]; omega)
      refine ⟨cur', g1, ?_⟩
      rw [g2, List.take_zero, List.nil_append, List.take_append_of_le_length (by rw [List.length_map]; omega), List.take_of_length_le (by rw [List.length_map]; omega)]
    · intro j v hj
      have hj' : j < n := by
        by_cases hlt : j < n
        · exact hlt
        · have : (xs.map (Value.int .u64))[j]? = none := by simp; omega
          rw [this] at hj; cases hj
      have e : (xs.map (Value.int .u64))[j]? = some (.int .u64 (xs.getD j 0)) := by simp [List.getD, show j < xs.length by omega]
      rw [e] at hj
      cases hj
      have hadd : (⟨b, off, none⟩ : Addr).add j = ⟨b, off + j, none⟩ := by unfold Addr.add; split <;> simp_all
      rw [hadd]
      exact hc j hj'
    · intro j hj
      rw [List.length_map, hl] at hj
      rw [Nat.zero_add, hB.cell (k := j) (by omega)]
      rfl
    · intro j _
      obtain ⟨cur, h1, _⟩ := hB
      exact frozen_of_row w B (0 + j) _ _ h1
    · intro v hv
      obtain ⟨z, _, rfl⟩ := List.mem_map.1 hv
      rfl
theorem append_empty {ops : Array Oper} {rest : List Oper} {o : Oper} {a : Act} {Q : Exit → Act → World → Prop} {W : World} {T E : TypeId} {k : IntKind} {g cap : Nat} {p : Option Addr} {c : Nat}
    (hT : Try.prog.underlying T = some (.slice E)) (hI : (Try.prog.info? E).map (fun i => (i.zero, i.size, i.bytes)) = some (some (.int k 0), 1, 8)) (hgd : o.guard = none) (s x : Operand)
    (ho : o.op = .call { callee := .builtin .append, args := #[s, x], argTypes := #[T, T] }) (hs : a.eval s = .slice (some ⟨g, 0, none⟩) 0 cap) (hx : a.eval x = .slice p 0 c)
    (h : wpList Try.prog ops Q rest (a.put o.dst (.slice (some ⟨g, 0, none⟩) 0 cap)) W) : wpList Try.prog ops Q (o :: rest) a W := by
  obtain ⟨i0, hi, hz0, hz1, hz2⟩ := info_parts hI
  have hsrc : Src Try.prog i0.size T (.slice p 0 c) 0 [] W := by
    cases p with
    | none => exact Src.ofNil W hT c
    | some ad => exact Src.ofSlice W hT ad 0 c [] (by simp) (fun j u hj => by simp at hj) (fun u hu => by cases hu)
  have hrun := run_append_room_src (P := Try.prog) W T T o.type E i0 hT hi g 0 0 cap _ 0 [] hsrc (by omega) (fun j hj => by simp at hj) (fun j hj => by simp at hj)
  have hset : W.setCells g (0 + 0 * i0.size) [] = W := rfl
  rw [hset] at hrun
  refine wpList_plain hgd fun _ hK => ?_
  unfold Oper.wp execOp
  simp only [ho, resolve, invoke, builtin, Sem.run_bind, Sem.run_pure, Result.andThen_ok, List.map_toArray, List.map_cons, List.map_nil, hx, hs]
  rw [hrun]
  exact hK _ _ h
theorem fill_no (k n m d : Int) (v : Value) (a : Option Addr) (L c : Nat) (hv : v = .slice a L c) (W : World) (wn : -9223372036854775808 ≤ n ∧ n ≤ 9223372036854775807) (h : rightb k n m d = false) :
    Calls Try.prog 13 #[.agg #[.int .i64 k, .int .i64 n, .int .i64 m, .int .i64 d], v] W fun e w' => e = .returned (.int .i64 2) ∧ Below W.heap.size W w' := by
  subst hv
  have hB := (Below.refl W.heap.size W).alloc (Nat.le_refl _) (.cells #[.int .i64 k, .int .i64 n, .int .i64 m, .int .i64 d] 23)
  have RG := fun w => need_right k n m d w wn
  rw [h] at RG
  have RG := Lib.hid RG
  go_enter Try.func13, Try.ntmps13
  go_wp2_with fail
  refine (RG.out _).mono ?_
  rintro e w1 ⟨rfl, b1⟩
  go_wp2_with fail
  go_ret
  exact ⟨rfl, hB.trans (b1.mono hB.size)⟩
theorem box_keep2 {w0 w : World} {X : Nat} {k n m d : Int} (hlt : X < w0.heap.size) (c0 : w0.cell? ⟨X, 0, none⟩ = some (.int .i64 k)) (c1 : w0.cell? ⟨X, 1, none⟩ = some (.int .i64 n)) (c2 : w0.cell? ⟨X, 2, none⟩ = some (.int .i64 m)) (c3 : w0.cell? ⟨X, 3, none⟩ = some (.int .i64 d)) (h : Below w0.heap.size w0 w) :
    w.cell? ⟨X, 0, none⟩ = some (.int .i64 k) ∧ w.cell? ⟨X, 1, none⟩ = some (.int .i64 n) ∧ w.cell? ⟨X, 2, none⟩ = some (.int .i64 m) ∧ w.cell? ⟨X, 3, none⟩ = some (.int .i64 d) :=
  ⟨(h.cell (p := ⟨X, 0, none⟩) hlt).trans c0, (h.cell (p := ⟨X, 1, none⟩) hlt).trans c1, (h.cell (p := ⟨X, 2, none⟩) hlt).trans c2, (h.cell (p := ⟨X, 3, none⟩) hlt).trans c3⟩
theorem fill_len (k n m d : Int) (a : Option Addr) (L c : Nat) (W : World) (wn : -9223372036854775808 ≤ n ∧ n ≤ 9223372036854775807) (wm : m ≤ 9223372036854775807) (h : rightb k n m d = true) (hL : (L : Int) ≠ roomi k n m) :
    Calls Try.prog 13 #[.agg #[.int .i64 k, .int .i64 n, .int .i64 m, .int .i64 d], .slice a L c] W fun e w' => e = .returned (.int .i64 5) ∧ Below W.heap.size W w' := by
  have RG := fun w => need_right k n m d w wn
  rw [h] at RG
  have RG := Lib.hid RG
  have RM := fun w => need_room k n m d w wn wm
  rw [if_pos h] at RM
  have RM := Lib.hid RM
  have hne : ((L : Int) != roomi k n m) = true := by simp; omega
  generalize roomi k n m = R at *
  obtain ⟨w0, hw0, c0, c1, c2, c3, hW, hlt⟩ := box4 W k n m d 23
  go_enter Try.func13, Try.ntmps13
  go_wp2_with fail
  rw [← hw0]
  clear hw0
  refine (RG.out _).mono ?_
  rintro e w1 ⟨rfl, b1⟩
  have hB := b1
  obtain ⟨e0, e1, e2, e3⟩ := box_keep2 hlt c0 c1 c2 c3 hB
  clear b1
  go_wp2_with fail
  refine (RM.out _).mono ?_
  rintro e w2 ⟨rfl, b1⟩
  have hB := hB.trans (b1.mono hB.size)
  clear b1 e0 e1 e2 e3
  go_wp2_with fail
  go_ret
  exact ⟨rfl, hW.trans (hB.mono hW.size)⟩
theorem fill_ok (k m d : Int) (N L c g : Nat) (zs : List Int) (W : World) (wm : m ≤ 9223372036854775807) (h : rightb k N m d = true) (hh : hasb N = true) (hd : d = 0 ∨ d = 1) (h1 : 1 ≤ N) (hN : N ≤ 140) (hm : Nm k N m d) (hL : (L : Int) = roomi k N m) (hzl : zs.length = L) (hP : Pre W g 43 zs) :
    Calls Try.prog 13 #[.agg #[.int .i64 k, .int .i64 N, .int .i64 m, .int .i64 d], .slice (some ⟨g, 0, none⟩) L c] W fun e w' => e = .returned (.int .i64 0) ∧ ∃ ys, TabOf k N m.toNat d L ys ∧ ys.length = L ∧ Pre w' g 43 ys ∧ But W w' g := by
  have RG := fun w => need_right k N m d w (by omega)
  rw [h] at RG
  have RG := Lib.hid RG
  have RM := fun w => need_room k N m d w (by omega) wm
  rw [if_pos h] at RM
  have RM := Lib.hid RM
  have hne : ((L : Int) != roomi k N m) = false := by simp; omega
  have TM := Lib.hid (fun w => table_make k m d N w h hh hd hm)
  have NZ := Lib.hid (fun R ys (ht : TabOf k N m.toNat d R ys) => ht.nz hm hh hd h1 hN)
  have NR := Lib.hid (fun R ys (ht : TabOf k N m.toNat d R ys) => (show R = L by
    have m0 : m = (m.toNat : Int) := by
      rcases hm with ⟨_, rfl⟩ | ⟨_, rfl⟩ | ⟨_, rfl, _⟩ | ⟨_, M, a, rfl, _⟩ <;> simp
    have := nm_room hm h1 m0 ht
    omega))
  clear hm hL
  generalize roomi k N m = R at *
  have hgl := hP.lt
  obtain ⟨w0, hw0, c0, c1, c2, c3, hW, hlt⟩ := box4 W k N m d 23
  have HP := Lib.hid (hP.below hW)
  have hbW : But W w0 g := But.of_below g hW
  clear hP
  go_enter Try.func13, Try.ntmps13
  go_wp2_with fail
  rw [← hw0]
  clear hw0
  refine (RG.out _).mono ?_
  rintro e w1 ⟨rfl, b1⟩
  have hB := b1
  have HP := Lib.hid (HP.out.below b1)
  obtain ⟨e0, e1, e2, e3⟩ := box_keep2 hlt c0 c1 c2 c3 hB
  clear b1
  go_wp2_with fail
  refine (RM.out _).mono ?_
  rintro e w2 ⟨rfl, b1⟩
  have hB := hB.trans (b1.mono hB.size)
  have HP := Lib.hid (HP.out.below b1)
  clear e0 e1 e2 e3
  obtain ⟨e0, e1, e2, e3⟩ := box_keep2 hlt c0 c1 c2 c3 hB
  clear b1
  go_wp2_with fail
  refine (TM.out _).mono ?_
  rintro e w3 ⟨R', ys, ht, p, c', rfl, hr, b1⟩
  obtain rfl := NR.out R' ys ht
  have HT := Lib.hid ht
  have HR := Lib.hid hr
  have hB := hB.trans (b1.mono hB.size)
  have HP := Lib.hid (HP.out.below b1)
  obtain ⟨w4, hrun, hP4, hb4⟩ := run_copy_pre (dc := c) (sc := c') 3 HP.out hzl HR.out
  have HP4 := Lib.hid hP4
  have hbb := (hbW.trans (But.of_below g hB)).trans hb4
  clear b1 hr ht e0 e1 e2 e3 hP4 hb4
  go_wp2_with (at_builtin; refine Lib.wpList_copy_run _ rfl _ _ 25 25 rfl _ _ rfl rfl hrun ?_)
  go_ret
  exact ⟨rfl, ys, HT.out, HR.out.len, HP4.out, hbb⟩
end Go.Proofs.Ytcfmiflhhjoofaa
