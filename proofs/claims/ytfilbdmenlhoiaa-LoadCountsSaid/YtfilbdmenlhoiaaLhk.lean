/- Law 45: load.Hits; reference 45's Kind. -/
import Derived.Test.YtfilbdmenlhoiaaLes
namespace Go.Proofs.Ytfilbdmenlhoiaa
open Go.ChangeShapes Go.WideShapes Go.ChangeAt Go.RowKit
set_option linter.unusedVariables false
set_option linter.unusedSimpArgs false
/-- One element more, of up to 1024 bytes, the cells a variable. -/
theorem append_big {ops : Array Oper} {rest : List Oper} {o : Oper} {a : Act} {Q : Exit → Act → World → Prop} {W : World} {T E : TypeId} {sz bys B : Nat} {v : Value} {n : Nat} {xs : List Value} {news : Array Value} (hT : Try.prog.underlying T = some (.slice E))
    (hI : (Try.prog.info? E).map (fun i => (i.zero.map (fun z => z.cells.size), i.size, i.bytes)) = some (some sz, sz, bys)) (hsz : 0 < sz) (hby : bys ≤ 1024) (hgd : o.guard = none) (s x : Operand)
    (ho : o.op = .call { callee := .builtin .append, args := #[s, x], argTypes := #[T, T] }) (hs : a.eval s = v) (hown : W.ownsRow B E sz v n xs) (hx : a.eval x = .slice (some ⟨W.heap.size, 0, none⟩) 1 1) (hB : B ≤ W.heap.size) (hn : n < 1000000)
    (hl : news.size = sz) (h1 : news.all (·.oneCell') = true)
    (h : ∀ v' w', w'.ownsRow B E sz v' (n + 1) (xs ++ news.toList) → Below B W w' → wpList Try.prog ops Q rest (a.put o.dst v') w') : wpList Try.prog ops Q (o :: rest) a (W.alloc (.cells news E)) := by
  obtain ⟨i0, hi⟩ : ∃ i, Try.prog.info? E = some i := by
    cases h0 : Try.prog.info? E with
    | none => rw [h0] at hI; cases hI
    | some i => exact ⟨i, rfl⟩
  rw [hi] at hI
  simp only [Option.map_some, Option.some.injEq, Prod.mk.injEq] at hI
  obtain ⟨hz, hsz2, hby2⟩ := hI
  obtain ⟨z, hz1, hz2⟩ : ∃ z, i0.zero = some z ∧ z.cells.size = sz := by
    cases h0 : i0.zero with
    | none => rw [h0] at hz; cases hz
    | some z => rw [h0] at hz; simp at hz; exact ⟨z, rfl, hz⟩
  refine wpList_append_lies _ hgd s x T ho B E i0 z sz bys hT hi hz1 hsz2 hby2 hz2 hsz v n xs hs (World.ownsRow.alloc hown _) ⟨W.heap.size, 0, none⟩ 1 1 news.toList hx (by rw [Array.length_toList]; omega) ?_ (fun u hu => Array.all_eq_true_iff_forall_mem.1 h1 u (by simpa using hu)) (by decide) ?_ ?_ (by simp; omega) _ rfl ?_
  · intro j u hj
    exact World.news_of_block (heap_alloc_new W (.cells news E)) j u (by simpa using hj)
  · unfold maxLen; omega
  · have : (n + 1) * bys ≤ 1000000 * 1024 := Nat.mul_le_mul (by omega) hby
    omega
  · intro g cap w' h2 h3 _ _
    exact h _ w' h2 (((Below.refl _ _).alloc hB _).grown h3 (by simp; omega) (fun i hi => (World.ownsRow.lt hown i hi).1))
/-- A whole call is read, where a guard wants it. -/
theorem wpl_opg {ops : Array Oper} {rest : List Oper} {op : Oper} {a : Act} {w : World} {Q : Exit → Act → World → Prop} {cs : Array Value} (hw : Region.wanted op (yielded ops a.tmps) = true) (x : Operand) (ho : op.op = .load 51 x)
    (b o : Nat) (hx : a.eval x = .pointer (some ⟨b, o, none⟩)) (hn : cs.size = 19) (hc : w.rangeAt b o cs.toList)
    (h : wpList Try.prog ops Q rest (a.put op.dst (.agg cs)) w) : wpList Try.prog ops Q (op :: rest) a w :=
  wpList_step fun K hK => by
    rw [if_pos hw]
    exact wp_load_mid _ x ho b o hx cs.toList _ hc Try.underlying51 rfl (by rw [Array.length_toList, hn]; exact op_size) (hK _ _ h)
def hitB (e : Int) (x : Oi) : Bool := decide (x.kind = 2 ∧ x.t ≠ -1 ∧ x.e = e)
theorem hit_succ {l : List Oi} {i : Nat} {x : Oi} (h : l[i]? = some x) (e : Int) : (l.take (i + 1)).countP (hitB e) = (l.take i).countP (hitB e) + (if hitB e x then 1 else 0) := by
  rw [List.take_add_one, h, List.countP_append]
  simp
theorem hit_le (l : List Oi) (e : Int) (i : Nat) : (l.take i).countP (hitB e) ≤ i :=
  Nat.le_trans (List.countP_le_length ..) (by rw [List.length_take]; omega)
set_option maxRecDepth 100000 in
set_option maxHeartbeats 8000000 in
theorem l_hits (v : Value) (l : List Oi) (lim : Nat) (W : World) (hR : RowO W lim v l) (hlim : lim ≤ W.heap.size) (hn : l.length ≤ 10000) :
    Calls Try.prog 16 #[v] W fun e w' => e = .returned (.tuple #[.int .i64 (l.countP (hitB 0)), .int .i64 (l.countP (hitB 7))]) ∧ Below W.heap.size W w' := by
  have HR := Lib.hid hR
  obtain ⟨p, c, rfl, -⟩ := hR
  have HN := Lib.hid hn
  have HL := Lib.hid hlim
  clear hn hlim
  go_enter Try.func16, Try.ntmps16
  go_wp2_with fail
  go_loopw [8, 2, 3] (fun x n m wr => ∃ (i : Nat), x = .int .i64 i ∧ n = .int .i64 ((l.take i).countP (hitB 0)) ∧ m = .int .i64 ((l.take i).countP (hitB 7)) ∧ Hid (i ≤ l.length) ∧ Hid (Below W.heap.size W wr)) (fun x _ _ _ => l.length - (match x with | .int _ n => n.toNat | _ => 0))
  case atStart => exact ⟨0, rfl, rfl, rfl, Lib.hid (Nat.zero_le _), Lib.hid (Below.refl _ _)⟩
  case round =>
    obtain ⟨i, rfl, rfl, rfl, HI, HB⟩ := hrel
    by_cases hi : i < l.length
    · obtain ⟨x, hx⟩ : ∃ x, l[i]? = some x := ⟨_, List.getElem?_eq_getElem hi⟩
      obtain ⟨b, o, cs, rfl, hbl, hv, hc⟩ := (HR.out.below (HB.out.mono HL.out)).get hx
      have hbl2 : b < wr.heap.size := by have := HL.out; have := HB.out.size; omega
      have LD := Lib.hid (ops_load hc)
      have HV := Lib.hid hv
      obtain ⟨w1, hw1⟩ : ∃ w1, wr.alloc (.cells cs 51) = w1 := ⟨_, rfl⟩
      have hh : w1.heap[wr.heap.size]? = some (.cells cs 51 (0, 0)) := by rw [← hw1]; exact heap_alloc_new _ _
      have hb1 : Below wr.heap.size wr w1 := by rw [← hw1]; exact (Below.refl _ _).alloc (Nat.le_refl _) _
      have c2 : w1.cell? ⟨wr.heap.size, 2, none⟩ = some (.int .i64 x.kind) := by rw [cell_of_row _ _ _ _ _ _ hh]; exact hv.hk
      have HH := Lib.hid hh
      have LD1 := Lib.hid (show w1.rangeAt wr.heap.size 0 cs.toList from fun j v hj => by
        rw [Nat.zero_add, cell_of_row _ _ _ _ _ _ hh]; simpa using hj)
      have HB1 := Lib.hid (HB.out.trans (hb1.mono HB.out.size))
      have HW1 := Lib.hid hw1
      have CE := Lib.hid (l_ended cs _ _ _ _ _ hv)
      have S0 := Lib.hid (hit_succ hx 0)
      have S7 := Lib.hid (hit_succ hx 7)
      have WR := Lib.hid (show wrap64 ((i : Int) + 1) = ((i + 1 : Nat) : Int) by have := HN.out; simp only [wrap64]; omega)
      have W0 := Lib.hid (show wrap64 (((l.take i).countP (hitB 0) : Int) + 1) = (((l.take i).countP (hitB 0) + 1 : Nat) : Int) by have := HN.out; have := hit_le l 0 i; simp only [wrap64]; omega)
      have W7 := Lib.hid (show wrap64 (((l.take i).countP (hitB 7) : Int) + 1) = (((l.take i).countP (hitB 7) + 1 : Nat) : Int) by have := HN.out; have := hit_le l 7 i; simp only [wrap64]; omega)
      clear hx hc hv hw1 hh hb1
      by_cases hk : x.kind = 2
      · have hd : (x.kind != 2) = false := by simp [hk]
        go_wp2_with (first | refine wpl_op rfl _ rfl _ _ rfl HV.out.n LD.out ?_ | refine wpl_op rfl _ rfl _ _ rfl HV.out.n LD1.out ?_ | refine wpl_opg rfl _ rfl _ _ rfl HV.out.n LD1.out ?_ | refine wpl_new rfl _ _ rfl rfl rfl HV.out.n HV.out.o rfl HW1.out ?_)
        refine (CE.out _).mono ?_
        rintro e w2 ⟨rfl, hw2⟩
        have hb2 : Below w1.heap.size w1 w2 := by rw [hw2]; exact (Below.refl _ _).alloc (Nat.le_refl _) _
        have c9 : w2.cell? ⟨wr.heap.size, 9, none⟩ = some (.int .i64 x.e) := by rw [cell_of_row _ _ _ _ _ _ ((hb2.block _ (g_lt HH.out)).trans HH.out)]; exact HV.out.he
        have HB2 := Lib.hid (HB1.out.trans (hb2.mono HB1.out.size))
        clear hb2 hw2
        by_cases ht : x.t = -1
        · have hd : (x.t != -1) = false := by simp [ht]
          go_wp2_with fail
          go_roundw
          case rel => exact ⟨i + 1, by rw [WR.out], by rw [S0.out]; simp [hitB, ht], by rw [S7.out]; simp [hitB, ht], Lib.hid hi, HB2⟩
          case measure => simp [WR.out]; omega
        · have hd : (x.t != -1) = true := by simp [ht]
          by_cases h0 : x.e = 0
          · go_wp2_with fail
            go_roundw
            case rel => exact ⟨i + 1, by rw [WR.out], by rw [S0.out, W0.out]; simp [hitB, ht, h0, hk], by rw [S7.out]; simp [hitB, h0], Lib.hid hi, HB2⟩
            case measure => simp [WR.out]; omega
          · by_cases h7 : x.e = 7
            · go_wp2_with fail
              go_roundw
              case rel => exact ⟨i + 1, by rw [WR.out], by rw [S0.out]; simp [hitB, h0], by rw [S7.out, W7.out]; simp [hitB, ht, h7, hk], Lib.hid hi, HB2⟩
              case measure => simp [WR.out]; omega
            · go_wp2_with fail
              go_roundw
              case rel => exact ⟨i + 1, by rw [WR.out], by rw [S0.out]; simp [hitB, h0], by rw [S7.out]; simp [hitB, h7], Lib.hid hi, HB2⟩
              case measure => simp [WR.out]; omega
      · have hd : (x.kind != 2) = true := by simp [hk]
        go_wp2_with (first | refine wpl_op rfl _ rfl _ _ rfl HV.out.n LD.out ?_ | refine wpl_op rfl _ rfl _ _ rfl HV.out.n LD1.out ?_ | refine wpl_opg rfl _ rfl _ _ rfl HV.out.n LD1.out ?_ | refine wpl_new rfl _ _ rfl rfl rfl HV.out.n HV.out.o rfl HW1.out ?_)
        go_roundw
        case rel => exact ⟨i + 1, by rw [WR.out], by rw [S0.out]; simp [hitB, hk], by rw [S7.out]; simp [hitB, hk], Lib.hid hi, HB1⟩
        case measure => simp [WR.out]; omega
    · have h9 := (show i = l.length by have := HI.out; omega)
      subst h9
      have hi : ¬ l.length < l.length := by omega
      go_wp2_with fail
      rw [List.take_length] at *
      go_ret2
      exact ⟨rfl, HB.out⟩
end Go.Proofs.Ytfilbdmenlhoiaa
