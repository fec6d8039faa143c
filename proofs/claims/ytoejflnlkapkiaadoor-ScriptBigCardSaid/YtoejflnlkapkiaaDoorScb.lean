/- Package script: numbers and line. -/
import Derived.Test.YtoejflnlkapkiaaDoorSca
import Derived.Lib.AppendIntMem
namespace Go.Proofs.YtoejflnlkapkiaaDoor
open Go.ChangeShapes Go.WideShapes Go.ChangeAt Go.RowKit
set_option linter.unusedVariables false
set_option linter.unusedSimpArgs false
theorem pow10_bel {w w' : World} {zs : List Int} (h : Lib.TabIs Tryd.prog w "internal/strconv.uint64pow10" .u64 zs) (hb : Below w.heap.size w w') : Lib.TabIs Tryd.prog w' "internal/strconv.uint64pow10" .u64 zs := by
  unfold Lib.TabIs World.var? at h ⊢
  cases hg : Tryd.prog.globalNamed "internal/strconv.uint64pow10" with
  | none => rw [hg] at h; exact h
  | some g =>
    rw [hg] at h
    simp only [Option.bind_some] at h ⊢
    by_cases hlt : g < w.heap.size
    · rw [hb.block g hlt]; exact h
    · rw [Array.getElem?_eq_none (by omega)] at h; cases h
theorem own_made1 (w : World) (B : Nat) (E : TypeId) (u : Value) (hB : B ≤ w.heap.size) : (w.alloc (.cells #[u] E)).ownsRow B E 1 (.slice (some ⟨w.heap.size, 0, none⟩) 1 1) 1 [u] :=
  ⟨rfl, .inr ⟨w.heap.size, 1, #[u], rfl, hB, heap_alloc_new _ _, Nat.le_refl _, by decide, rfl, rfl⟩⟩
theorem sc_meas (n k : Nat) (h : k < n) : n - (intOf (.int .i64 ((k + 1 : Nat) : Int))).toNat < n - (intOf (.int .i64 (k : Int))).toNat := by simp only [intOf]; omega
theorem sc_meas' (n k : Nat) (h : k < n) : n - (intOf (.int .i64 ((k : Int) + 1))).toNat < n - (intOf (.int .i64 (k : Int))).toNat := by simp only [intOf]; omega
set_option maxRecDepth 100000 in
set_option maxHeartbeats 4000000 in
theorem sc_numbers (f : ByteArray) (p : Option Addr) (n c : Nat) (xs : List Int) (W : World) (h : RowI W p n xs) (hn : n ≤ 5000000) (hT : Lib.TabIs Tryd.prog W "internal/strconv.uint64pow10" .u64 Lib.pow10Tab) :
    Calls Tryd.prog 21 #[.string f, .slice p n c] W fun e w' => ∃ v, e = .returned v ∧ w'.ownsRow W.heap.size 9 1 v (n + 1) (wsI f xs) ∧ Below W.heap.size W w' := by
  have HR := Lib.hid h
  have HT_ := Lib.hid hT
  have HN := Lib.hid hn
  obtain ⟨w0, hw0⟩ : ∃ w0, W.alloc (.cells #[.string f] 9) = w0 := ⟨_, rfl⟩
  have HO0 := Lib.hid (show w0.ownsRow W.heap.size 9 1 (.slice (some ⟨W.heap.size, 0, none⟩) 1 1) 1 (wsI f (xs.take 0)) by rw [← hw0]; exact own_made1 W _ _ _ (Nat.le_refl _))
  have HB0 := Lib.hid (show Below W.heap.size W w0 by rw [← hw0]; exact (Below.refl _ _).alloc (Nat.le_refl _) _)
  have HL := Lib.hid h.len
  clear h hT hn
  go_enter Tryd.func21, Tryd.ntmps21
  go_wp2_with fail
  try rw [hw0]
  clear hw0
  go_loopw [5, 12] (fun v j wr => ∃ k : Nat, j = .int .i64 k ∧ Hid (k ≤ n) ∧ Hid (wr.ownsRow W.heap.size 9 1 v (k + 1) (wsI f (xs.take k))) ∧ Hid (Below W.heap.size W wr)) (fun _ j _ => n - (intOf j).toNat)
  case atStart => exact ⟨0, rfl, Lib.hid (Nat.zero_le _), HO0, HB0⟩
  case round =>
    obtain ⟨k, rfl, HK, HO, HB⟩ := hrel
    obtain ⟨x1, rfl⟩ : ∃ w, w = wr := ⟨_, rfl⟩
    by_cases hk : k < n
    · have HR1 := HR.out.below HB.out
      obtain ⟨b, off, rfl, hb, hc, x0, x1'⟩ := HR1.cell hk
      have HKL := Lib.hid hk
      have hkk : (k : Int) < (n : Int) := by omega
      have hk0 : (0 : Int) ≤ (k : Int) := by omega
      obtain ⟨z, hz⟩ : ∃ z, xs.getD k 0 = z := ⟨_, rfl⟩
      rw [hz] at hc x0 x1'
      have HST := Lib.hid (show wsI f (xs.take (k + 1)) = wsI f (xs.take k) ++ [.string (itS z)] by rw [← hz]; exact wsI_step (by rw [HL.out]; exact hk))
      have IT := Lib.hid (c_strconv_Itoa z x0 x1' x1 (pow10_bel HT_.out HB.out))
      have WK := Lib.hid (show wrap64 ((k : Int) + 1) = ((k + 1 : Nat) : Int) by have := HN.out; simp only [wrap64]; omega)
      have HV := Lib.hid (World.ownsRow.lt HO.out)
      clear hk hb hz x0 x1' HR1
      go_wp2_with fail
      refine IT.out.mono ?_
      rintro e x2 ⟨rfl, q, os, hx2⟩
      have hb2 := Lib.below_grow x1.heap.size x1 (Nat.le_refl _) q os
      rw [← hx2] at hb2
      clear hx2
      have HO2 := Lib.hid (own_below HO.out hb2)
      have HB2 := Lib.hid (HB.out.trans (hb2.mono HB.out.size))
      have hsz := HB2.out.size
      clear hb2
      have hkn : k + 1 < 10000000 := by have := HN.out; have := HKL.out; omega
      go_wp2_with (at_builtin; refine append_gL (T := 31) (E := 9) (sz := 1) (bys := 16) (B := W.heap.size) (xs := wsI f (xs.take k)) (news := [.string (itS z)]) Tryd.underlying31 info_str (by decide) (by decide) rfl _ _ rfl rfl HO2.out rfl hsz hkn rfl (by intro u hu; simp at hu; subst hu; rfl) ?_; intro v3 x3 hO3 hb3; have HO3 := Lib.hid hO3; have HB3 := Lib.hid hb3; clear hO3 hb3)
      go_roundw
      case rel => exact ⟨k + 1, by first | rw [WK.out] | simp, Lib.hid HKL.out, Lib.hid (by rw [HST.out]; exact HO3.out), Lib.hid (HB2.out.trans HB3.out)⟩
      case measure => first | exact sc_meas' n k HKL.out | (rw [WK.out]; exact sc_meas n k HKL.out)
    · have h9 : k = n := by have := HK.out; omega
      subst h9
      have hkk : ¬ (k : Int) < (k : Int) := by omega
      go_wp2_with fail
      go_ret
      have h := HO.out
      rw [List.take_of_length_le (by rw [HL.out]; exact Nat.le_refl _)] at h
      exact ⟨_, rfl, h, HB.out⟩
/-- A line's bytes. -/
def lineB (ws : List ByteArray) : List UInt8 := Lib.join (ws.map (·.data.toList)) [32] ++ [10]
/-- An own row of texts, cell by cell. -/
theorem own_texts {w : World} {B : Nat} {v : Value} {n : Nat} {ws : List ByteArray} (h : w.ownsRow B 9 1 v n (ws.map (Value.string ·))) (hn : 0 < n) :
    ∃ g c, v = .slice (some ⟨g, 0, none⟩) n c ∧ ws.length = n ∧ n ≤ c ∧ g < w.heap.size ∧ ∀ (j : Nat) x, ws[j]? = some x → w.cell? ⟨g, 0 + j, none⟩ = some (.string x) := by
  have hl : ws.length = n := by have := h.1; simpa using this
  rcases own_form h with ⟨-, h0, -⟩ | ⟨g, c, rfl, -, hg, hc, -, hx⟩
  · omega
  · refine ⟨g, c, rfl, hl, hc, hg, fun j x hj => ?_⟩
    have lt := (List.getElem?_eq_some_iff.1 hj).1
    obtain ⟨u, h1, h2, -⟩ := hx j (by omega)
    rw [List.getElem?_map, hj] at h1
    simp at h1
    rw [Nat.zero_add, h2, ← h1]
theorem bytes_line (l : List UInt8) (s : ByteArray) : Lib.byteCells l ++ Lib.strCells s ++ [.int .u8 10] = Lib.byteCells (l ++ (s.data.toList ++ [10])) := by
  unfold Lib.byteCells Lib.strCells
  simp
theorem bytes_line' (l : List UInt8) (x : List UInt8) : Lib.byteCells l ++ Lib.strCells ⟨x.toArray⟩ ++ [.int .u8 10] = Lib.byteCells (l ++ (x ++ [10])) := bytes_line l ⟨x.toArray⟩
theorem bat_below {T e : TypeId} {B b : Nat} {p : Value} {bs : List Value} {w w' : World} (h : Lib.BuilderAt T e B b p bs w) (hb : Below w.heap.size w w') : Lib.BuilderAt T e B b p bs w' := by
  obtain ⟨hB, v, hbk, hown, hne⟩ := h
  exact ⟨hB, v, (hb.block b (Array.getElem?_eq_some_iff.1 hbk).1).trans hbk, own_below hown hb, hne⟩
theorem isb_below {T e : TypeId} {B b : Nat} {bs : List Value} {w w' : World} (h : Lib.IsBuilder T e B b bs w) (hb : Below w.heap.size w w') : Lib.IsBuilder T e B b bs w' := by
  rcases h with h | h
  · exact .inl (bat_below h hb)
  · exact .inr (bat_below h hb)
set_option maxRecDepth 100000 in
set_option maxHeartbeats 4000000 in
theorem sc_line (B b : Nat) (l : List UInt8) (B' : Nat) (v : Value) (n : Nat) (ws : List ByteArray) (W : World) (h : Lib.IsBuilder 59 5 B b (Lib.byteCells l) W) (hB : B ≤ W.heap.size) (ho : W.ownsRow B' 9 1 v n (ws.map (Value.string ·))) (hn : 0 < n) (hn2 : n ≤ 1000000000)
    (hlen : l.length + (lineB ws).length ≤ 1000000000) :
    Calls Tryd.prog 20 #[.pointer (some ⟨b, 0, none⟩), v] W fun e w' => e = .returned (.tuple #[]) ∧ Lib.IsBuilder 59 5 B b (Lib.byteCells (l ++ lineB ws)) w' ∧ Below B W w' := by
  obtain ⟨g, c, rfl, hl, hc, hg, hx⟩ := own_texts ho hn
  obtain ⟨J, hJ⟩ : ∃ J, Lib.join (ws.map (·.data.toList)) [32] = J := ⟨_, rfl⟩
  have hLB : lineB ws = J ++ [10] := by unfold lineB; rw [hJ]
  rw [hLB] at hlen ⊢
  have hJl : l.length + J.length + 1 ≤ 1000000000 := by simp at hlen; omega
  have CJ := c_strings_Join g 0 c ws ⟨#[32]⟩ W hx hg (by omega) (by omega) (by show (Lib.join (ws.map (·.data.toList)) [32]).length ≤ _; rw [hJ]; omega)
  rw [hl] at CJ
  have hJ2 : Lib.join (ws.map (·.data.toList)) ((⟨#[32]⟩ : ByteArray).data.toList) = J := hJ
  rw [hJ2] at CJ
  have CJ := Lib.hid CJ
  have HBU := Lib.hid h
  have HJL := Lib.hid hJl
  have HBZ := Lib.hid hB
  clear h hB ho hn hn2 hlen hx hl hJ hLB hJ2 hJl
  go_enter Tryd.func20, Tryd.ntmps20
  go_wp2_with fail
  refine CJ.out.mono ?_
  rintro e x1 ⟨rfl, hb1⟩
  have hbu1 : Lib.IsBuilder 59 5 B b (Lib.byteCells l) x1 := isb_below HBU.out hb1
  have CW := Lib.hid (c_b_Write B b (Lib.byteCells l) ⟨J.toArray⟩ x1 hbu1 (by have := HJL.out; rw [Lib.byteCells_length]; show l.length + J.toArray.size ≤ _; simp; omega) (Nat.le_trans HBZ.out hb1.size))
  have HB1 := Lib.hid (hb1.mono HBZ.out)
  clear hbu1 hb1
  go_wp2_with fail
  refine CW.out.mono ?_
  rintro e x2 ⟨rfl, hbu2, hb2⟩
  have CB := Lib.hid (c_b_Byte B b (Lib.byteCells l ++ Lib.strCells ⟨J.toArray⟩) 10 x2 (.inr hbu2) (by have := HJL.out; rw [List.length_append, Lib.byteCells_length]; simp [Lib.strCells]; omega) (Nat.le_trans HBZ.out (HB1.out.trans hb2).size))
  have HB2 := Lib.hid (HB1.out.trans hb2)
  clear hbu2 hb2
  go_wp2_with fail
  refine CB.out.mono ?_
  rintro e x3 ⟨rfl, hbu3, hb3⟩
  go_wp2_with fail
  go_end0
  rw [bytes_line'] at hbu3
  exact ⟨rfl, .inr hbu3, HB2.out.trans hb3⟩
end Go.Proofs.YtoejflnlkapkiaaDoor
