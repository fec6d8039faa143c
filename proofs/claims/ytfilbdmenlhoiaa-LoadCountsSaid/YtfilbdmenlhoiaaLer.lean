/- Law 45: reference 45's Told; load: failed, Errors. -/
import Derived.Test.YtfilbdmenlhoiaaLqu
import Derived.Test.YtfilbdmenlhoiaaOpeno
namespace Go.Proofs.Ytfilbdmenlhoiaa
open Go.ChangeShapes Go.WideShapes Go.ChangeAt Go.RowKit
set_option linter.unusedVariables false
open Go.WideMaps Go.MapKept Go.WideElems Go.ChangeMaps
set_option linter.unusedSimpArgs false
def toldB (e : Int) (x : Oi) : Bool := decide (x.t ≠ -1 ∧ x.e = e)
def toldN (l : List Oi) (e : Int) : Nat := l.countP (toldB e)
theorem toldN_succ {l : List Oi} {i : Nat} {x : Oi} (h : l[i]? = some x) (e : Int) : toldN (l.take (i + 1)) e = toldN (l.take i) e + (if toldB e x then 1 else 0) := by
  unfold toldN
  rw [List.take_add_one, h, List.countP_append]
  simp
theorem toldN_le (l : List Oi) (e : Int) (i : Nat) : toldN (l.take i) e ≤ i := by
  unfold toldN
  exact Nat.le_trans (List.countP_le_length ..) (by rw [List.length_take]; omega)
theorem RowO.get {w : World} {lim : Nat} {p : Option Addr} {m c : Nat} {l : List Oi} (h : RowO w lim (.slice p m c) l) {i : Nat} {x : Oi} (hx : l[i]? = some x) : ∃ b o cs, p = some ⟨b, o, none⟩ ∧ b < lim ∧ OpV cs x.who x.kind x.e x.f x.t ∧ ∀ k v, cs[k]? = some v → w.cell? ⟨b, o + i * 19 + k, none⟩ = some v := by
  obtain ⟨p', c', e, _, _, h1 | ⟨b, o, h2, h3, h4⟩⟩ := h
  · subst h1; simp at hx
  · cases e
    obtain ⟨cs, h5, h6⟩ := h4 i x hx
    exact ⟨b, o, cs, h2, h3, h5, h6⟩
theorem RowO.take {w : World} {lim : Nat} {p : Option Addr} {m c : Nat} {l : List Oi} (h : RowO w lim (.slice p m c) l) {i : Nat} (hi : i ≤ l.length) : RowO w lim (.slice p i c) (l.take i) := by
  obtain ⟨p', c', e, h7, h8, h9⟩ := h
  cases e
  refine ⟨p, c, by rw [List.length_take, Nat.min_eq_left hi], by rw [List.length_take]; omega, h8, ?_⟩
  rcases h9 with h1 | ⟨b, o, h2, h3⟩
  · subst h1; exact .inl (by simp)
  · exact .inr ⟨b, o, h2, h3.take i⟩
set_option maxRecDepth 100000 in
set_option maxHeartbeats 4000000 in
theorem r45_told (v : Value) (l : List Oi) (e : Int) (lim : Nat) (W : World) (hR : RowO W lim v l) (hlim : lim ≤ W.heap.size) (hn : l.length ≤ 100000) :
    Calls Try.prog 15 #[v, .int .i64 e] W fun x w' => x = .returned (.int .i64 (toldN l e)) ∧ Below W.heap.size W w' := by
  have HR := Lib.hid hR
  obtain ⟨p, c, rfl, -⟩ := hR
  have HN := Lib.hid hn
  have HL := Lib.hid hlim
  clear hn hlim
  go_enter Try.func15, Try.ntmps15
  go_wp2_with fail
  go_loopw [6, 5] (fun x n wr => ∃ (i : Nat), x = .int .i64 i ∧ n = .int .i64 (toldN (l.take i) e) ∧ Hid (i ≤ l.length) ∧ Hid (Below W.heap.size W wr)) (fun x _ _ => l.length - (match x with | .int _ n => n.toNat | _ => 0))
  case atStart => exact ⟨0, rfl, rfl, Lib.hid (Nat.zero_le _), Lib.hid (Below.refl _ _)⟩
  case round =>
    obtain ⟨i, rfl, rfl, HI, HB⟩ := hrel
    by_cases hi : i < l.length
    · obtain ⟨x, hx⟩ : ∃ x, l[i]? = some x := ⟨_, List.getElem?_eq_getElem hi⟩
      obtain ⟨b, o, cs, rfl, hbl, hv, hc⟩ := (HR.out.below (HB.out.mono HL.out)).get hx
      have c18 := hc 18 _ hv.ht
      have c9 := hc 9 _ hv.he
      have hbl2 : b < wr.heap.size := by have := HL.out; have := HB.out.size; omega
      have SP := Lib.hid (toldN_succ hx e)
      have LE := Lib.hid (toldN_le l e i)
      have WR := Lib.hid (show wrap64 ((i : Int) + 1) = ((i + 1 : Nat) : Int) by have := HN.out; simp only [wrap64]; omega)
      have WN := Lib.hid (show wrap64 ((toldN (l.take i) e : Int) + 1) = ((toldN (l.take i) e + 1 : Nat) : Int) by have := HN.out; have := LE.out; simp only [wrap64]; omega)
      clear hx hc hv
      by_cases ht : x.t = -1
      · have hd : (x.t != -1) = false := by simp [ht]
        go_wp2_with fail
        go_roundw
        case rel => exact ⟨i + 1, by rw [WR.out], by rw [SP.out]; simp [toldB, ht], Lib.hid hi, HB⟩
        case measure => simp [WR.out]; omega
      · have hd : (x.t != -1) = true := by simp [ht]
        by_cases he : x.e = e
        · have hd2 : (x.e == e) = true := by simp [he]
          go_wp2_with fail
          go_roundw
          case rel => exact ⟨i + 1, by rw [WR.out], by rw [SP.out, WN.out]; simp [toldB, ht, he], Lib.hid hi, HB⟩
          case measure => simp [WR.out]; omega
        · have hd2 : (x.e == e) = false := by simp [he]
          go_wp2_with fail
          go_roundw
          case rel => exact ⟨i + 1, by rw [WR.out], by rw [SP.out]; simp [toldB, ht, he], Lib.hid hi, HB⟩
          case measure => simp [WR.out]; omega
    · have h9 := (show i = l.length by have := HI.out; omega)
      subst h9
      have hi : ¬ l.length < l.length := by omega
      go_wp2_with fail
      go_ret
      exact ⟨by rw [List.take_length]; rfl, HB.out⟩
set_option maxRecDepth 100000 in
theorem l_failed (cs : Array Value) (who kind e f t : Int) (h : OpV cs who kind e f t) (W : World) :
    Calls Try.prog 21 #[.agg cs] W fun x w' => x = .returned (.bool (decide (t ≠ -1 ∧ e ≠ 0))) ∧ Below W.heap.size W w' := by
  have HV := Lib.hid h
  obtain ⟨w1, hw1⟩ : ∃ w1, W.alloc (.cells cs 51) = w1 := ⟨_, rfl⟩
  have hh : w1.heap[W.heap.size]? = some (.cells cs 51 (0, 0)) := by rw [← hw1]; exact heap_alloc_new _ _
  have HB1 := Lib.hid (show Below W.heap.size W w1 by rw [← hw1]; exact (Below.refl _ _).alloc (Nat.le_refl _) _)
  have LD := Lib.hid (show w1.rangeAt W.heap.size 0 cs.toList from fun j v hj => by
    rw [Nat.zero_add, cell_of_row _ _ _ _ _ _ hh]; simpa using hj)
  have c9 : w1.cell? ⟨W.heap.size, 9, none⟩ = some (.int .i64 e) := by rw [cell_of_row _ _ _ _ _ _ hh]; exact h.he
  have HL := Lib.hid (show W.heap.size < w1.heap.size from g_lt hh)
  have HC9 := Lib.hid c9
  have HW1 := Lib.hid hw1
  have CE := Lib.hid (l_ended cs _ _ _ _ _ h)
  clear h hw1 hh c9
  go_enter Try.func21, Try.ntmps21
  go_upto_region 1 with fail
  rw [HW1.out]
  go_wp2_with (first | refine wpl_op rfl _ rfl _ _ rfl HV.out.n LD.out ?_)
  refine (CE.out _).mono ?_
  rintro x w2 ⟨rfl, hw2⟩
  have hb2 : Below w1.heap.size w1 w2 := by rw [hw2]; exact (Below.refl _ _).alloc (Nat.le_refl _) _
  have c9 := (hb2.cell HL.out).trans HC9.out
  have HB2 := Lib.hid (HB1.out.trans (hb2.mono HB1.out.size))
  clear hb2 hw2
  by_cases ht : t = -1
  · have hd : (t != -1) = false := by simp [ht]
    go_wp2_with fail
    go_ret
    exact ⟨by simp [ht], HB2.out⟩
  · have hd : (t != -1) = true := by simp [ht]
    go_wp2_with fail
    go_ret
    exact ⟨by simp [ht]; rfl, HB2.out⟩
end Go.Proofs.Ytfilbdmenlhoiaa
