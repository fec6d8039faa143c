/- Small facts that every walk of this seat uses: no Go text in sight. -/
import Derived.Test.YthnpbfboedgmpaaRows
import Derived.WalkKit
import Derived.ProofKit
import Derived.OpenShut
import Derived.WalkLawsBesides
import Derived.Handy
import Derived.Laws.Externs
import Derived.Lib.Hide
import Derived.ChangeSlices
import Derived.Deep.RegionHeld3
import Derived.BigQuiet
import Derived.Deep.QuietTactic
import Derived.WalkSmall
namespace Go.Proofs.Ythnpbfboedgmpaa
open Go.ChangeShapes Go.WideShapes Go.ChangeAt Go.RowKit
set_option linter.unusedVariables false

theorem ret_u64 {a b : Int} (h : a = b) : Ending.returned (.int .u64 a) = .returned (.int .u64 b) := by rw [h]
theorem ret_i64 {a b : Int} (h : a = b) : Ending.returned (.int .i64 a) = .returned (.int .i64 b) := by rw [h]
theorem ret_bool {a b : Bool} (h : a = b) : Ending.returned (.bool a) = .returned (.bool b) := by rw [h]

/-- Old cells and marks behind a part of the walk that has made memory alone. -/
theorem bcell {W w1 : World} (hb : Below W.heap.size W w1) : (∀ b o, b < W.heap.size → w1.cell? ⟨b, o, none⟩ = W.cell? ⟨b, o, none⟩) ∧ (∀ b o, b < W.heap.size → w1.frozen? ⟨b, o, none⟩ = W.frozen? ⟨b, o, none⟩) :=
  ⟨fun b o h => hb.cell (p := ⟨b, o, none⟩) h, fun b o h => hb.frozen (p := ⟨b, o, none⟩) h⟩

/-- A slice's elements, as they are read: xs, from its address on. -/
def Reads (k : IntKind) (w : World) (a : Option Addr) (xs : List Int) : Prop :=
  xs = [] ∨ ∃ (b off : Nat), a = some ⟨b, off, none⟩ ∧ b < w.heap.size ∧ ∀ i, i < xs.length → w.cell? ⟨b, off + i, none⟩ = some (.int k (xs.getD i 0))

/-- A slice of integers that came in: its elements, each in order; there are no more than a machine has. -/
def IsRow (k : IntKind) (w : World) (a : Option Addr) (n c : Nat) : Prop :=
  ∃ xs : List Int, xs.length = n ∧ n ≤ c ∧ n ≤ 9223372036854775807 ∧ Reads k w a xs ∧ ∀ x ∈ xs, (Lit.int k x).wf = true

theorem isRow_of {H : Type} {enc : TypeId × Value → H} {P : Program} {w : World} {base : Nat} {spare : Nat → Bool} {held : Bool} {t e : TypeId} {k : IntKind} {a : Option Addr} {n c : Nat} {d : DataW H} {p : List MemPlace}
    (ht : P.underlying t = some (.slice e)) (he : P.underlying e = some (.int k)) (hc : P.cellsOf e = 1) (h : DataW.Trod enc P w base spare held t (.slice a n c) d p) : IsRow k w a n c := by
  obtain ⟨fuel, hf⟩ := h
  rcases open_ints ht he hc hf with ⟨hcs, _⟩ | ⟨x, l, c', zs, hcs, _, hl, hm, hz, _, hcell, hwz⟩
  · simp [Value.cells] at hcs
    obtain ⟨rfl, rfl, rfl⟩ := hcs
    exact ⟨[], rfl, Nat.le_refl _, by omega, .inl rfl, by simp⟩
  · simp [Value.cells] at hcs
    obtain ⟨rfl, rfl, rfl⟩ := hcs
    have hzn : n ≤ zs.length := by rw [hz]; split <;> omega
    unfold maxLen at hm
    refine ⟨zs.take n, by simp; omega, hl, by omega, ?_, fun x hx => hwz x (List.mem_of_mem_take hx)⟩
    rcases Nat.eq_zero_or_pos n with h0 | h0
    · left; rw [h0]; rfl
    · right
      obtain ⟨b, off, spot⟩ := x
      have h00 := hcell 0 (by omega)
      have hspot : spot = none := by simpa [Addr.add] using World.cell?_spot h00
      subst hspot
      refine ⟨b, off, rfl, by have := block_lt_of_cell h00; simpa [Addr.add] using this, fun i hi => ?_⟩
      have hi' : i < n := by simp at hi; omega
      have hci := hcell i (by omega)
      have e : (zs.take n).getD i 0 = zs.getD i 0 := by simp [List.getD, List.getElem?_take, hi']
      have ea : (⟨b, off, none⟩ : Addr).add i = ⟨b, off + i, none⟩ := by unfold Addr.add; split <;> simp_all
      rw [ea] at hci
      rw [e]
      exact hci

theorem open_array2 {H : Type} {enc : TypeId × Value → H} {P : Program} {w : World} {r : Reach} {b0 base : Nat} {spare : Nat → Bool} {held : Bool} {t e : TypeId} {k : IntKind} {v : Value} {d : DataW H} {p : List MemPlace}
    (ht : P.underlying t = some (.array 2 e)) (he : P.underlying e = some (.int k)) (hc : P.cellsOf e = 1) (hct : P.cellsOf t = 2) (hv : Value.okWide P w r b0 t v) (h : DataW.Trod enc P w base spare held t v d p) :
    ∃ x y : Int, v = .agg #[.int k x, .int k y] ∧ (Lit.int k x).wf = true ∧ (Lit.int k y).wf = true := by
  simp only [Value.okWide, ht] at hv
  obtain ⟨cs, rfl, hsz, _⟩ := hv
  rw [hct] at hsz
  obtain ⟨c0, c1, rfl⟩ : ∃ c0 c1, cs = #[c0, c1] := by
    obtain ⟨l⟩ := cs
    match l, hsz with
    | [x, y], _ => exact ⟨x, y, rfl⟩
  obtain ⟨fuel, hf⟩ := h
  obtain ⟨xs, m, rfl, _, _, hlen, hel⟩ := DataW.trod_array ht hf
  have e0 := hel 0 (by omega)
  have e1 := hel 1 (by omega)
  obtain ⟨x0, hx0⟩ : ∃ x, xs[0]? = some x := ⟨xs[0], by simp⟩
  obtain ⟨x1, hx1⟩ : ∃ x, xs[1]? = some x := ⟨xs[1], by simp⟩
  simp only [hc, Value.cells, hx0] at e0
  simp only [hc, Value.cells, hx1] at e1
  obtain ⟨u, hu, _, wu⟩ := DataW.trod_int he e0
  obtain ⟨v, hv', _, wv⟩ := DataW.trod_int he e1
  simp at hu hv'
  exact ⟨u, v, by rw [hu, hv'], wu, wv⟩

/-- Two cells of a block of one's own, kept by whatever makes memory alone. -/
theorem keep3 {W1 w w' : World} {p q : Addr} {u v : Value} (h0 : W1.cell? p = some u) (h1 : W1.cell? q = some v) (hS : w.cell? p = some u ∧ w.cell? q = some v ∧ Below W1.heap.size W1 w) (hb : Below w.heap.size w w') :
    w'.cell? p = some u ∧ w'.cell? q = some v ∧ Below W1.heap.size W1 w' := by
  have hz := hS.2.2.trans (hb.mono hS.2.2.size)
  exact ⟨(hz.cell (block_lt_of_cell h0)).trans h0, (hz.cell (block_lt_of_cell h1)).trans h1, hz⟩

/-- The field's number that x leaves. -/
def fm (x : Int) : Int := x % 18446744069414584321
theorem fm_lo (x : Int) : 0 ≤ fm x := by unfold fm; omega
theorem fm_hi (x : Int) : fm x ≤ 18446744069414584320 := by unfold fm; omega
theorem fm_hi' (x : Int) : fm x ≤ 18446744073709551615 := by unfold fm; omega
theorem fm_of (x y k : Int) (h : x = y + k * 18446744069414584321) (h0 : 0 ≤ y) (h1 : y ≤ 18446744069414584320) : fm x = y := by unfold fm; omega
theorem fm_small (x : Int) (h0 : 0 ≤ x) (h1 : x ≤ 18446744069414584320) : fm x = x := by unfold fm; omega
theorem fm_fm (x : Int) : fm (fm x) = fm x := by unfold fm; omega
theorem fm_add_fm (x y : Int) : fm (fm x + fm y) = fm (x + y) := by unfold fm; omega
theorem fm_add_l (x y : Int) : fm (fm x + y) = fm (x + y) := by unfold fm; omega
theorem fm_add_r (x y : Int) : fm (x + fm y) = fm (x + y) := by unfold fm; omega
theorem fm_sub_fm (x y : Int) : fm (fm x - fm y) = fm (x - y) := by unfold fm; omega
theorem fm_sub_l (x y : Int) : fm (fm x - y) = fm (x - y) := by unfold fm; omega
theorem fm_sub_r (x y : Int) : fm (x - fm y) = fm (x - y) := by unfold fm; omega
theorem fm_mul_fm (x y : Int) : fm (fm x * fm y) = fm (x * y) := (Int.mul_emod x y _).symm
theorem fm_mul_l (x y : Int) : fm (fm x * y) = fm (x * y) := by
  have := fm_mul_fm (fm x) y
  rw [fm_fm] at this
  rw [← this, fm_mul_fm]
theorem fm_mul_r (x y : Int) : fm (x * fm y) = fm (x * y) := by rw [Int.mul_comm, fm_mul_l, Int.mul_comm]
theorem fm_eq (x y k : Int) (h : x = y + k * 18446744069414584321) : fm x = fm y := by unfold fm; omega
theorem fm_zero : fm 0 = 0 := by decide
theorem fm_one : fm 1 = 1 := by decide

end Go.Proofs.Ythnpbfboedgmpaa
