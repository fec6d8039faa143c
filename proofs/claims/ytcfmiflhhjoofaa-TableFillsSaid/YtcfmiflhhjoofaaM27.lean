/- Put together by program (merge.py): Stock4. -/
import Derived.Deep.DrawnRows
import Derived.Outline
import Derived.Test.YtcfmiflhhjoofaaM10
import Derived.Test.YtcfmiflhhjoofaaM22
import Derived.Test.YtcfmiflhhjoofaaM25
import Derived.Test.YtcfmiflhhjoofaaM26
/- Package stock: into, Pass; the document's pass. -/
namespace Go.Proofs.Ytcfmiflhhjoofaa
open Go.ChangeShapes Go.WideShapes Go.ChangeAt Go.RowKit
set_option linter.unusedVariables false
attribute [local go_sem ↓] Go.wp_at_zero Go.wp_at_succ
def Into (W : World) (BL : Nat) (zs : List Int) (e : Ending) (W' : World) : Prop := e = .returned (.tuple #[]) ∧ RowAt W' BL 43 zs ∧ But W W' BL
set_option maxRecDepth 100000 in
theorem stock_into (BL s h n : Nat) (ax aw : Option Addr) (cl cx cw : Nat) (xs ws zs : List Int) (W : World) (hn : 2 * s * h = n) (hs : 0 < s) (hh : 0 < h) (hsm : n ≤ 16777216) (hx : Row W ax n xs) (hw : Row W aw n ws) (hr : RowAt W BL 43 zs) (hz : zs.length = n) (nx : ∀ x, ax = some x → x.block ≠ BL) (nw : ∀ x, aw = some x → x.block ≠ BL) :
    Calls Try.prog 79 #[.slice (some ⟨BL, 0, none⟩) n cl, .slice ax n cx, .int .i64 s, .slice aw n cw] W (Into W BL (passl xs ws s n)) := by
  have BZ := hr.lt
  have W3 : ∀ W3, W3 = ((W.alloc (.cells #[.slice (some ⟨BL, 0, none⟩) n cl] 25)).alloc (.cells #[.slice ax n cx] 25)).alloc (.cells #[.slice aw n cw] 25) → St W3 (W.heap.size + 1) W.heap.size (W.heap.size + 1 + 1) BL n ax aw cx cw cl xs ws zs ∧ But W W3 BL := by
    rintro _ rfl
    have b1 := Below.refl W.heap.size W
    have hb : Below W.heap.size W (((W.alloc (.cells #[.slice (some ⟨BL, 0, none⟩) n cl] 25)).alloc (.cells #[.slice ax n cx] 25)).alloc (.cells #[.slice aw n cw] 25)) := ((b1.alloc (Nat.le_refl _) _).alloc (by simp) _).alloc (by simp; omega) _
    refine ⟨⟨?_, ?_, ?_, hx.below hb, hw.below hb, hr.below hb, hz, nx, nw, by omega⟩, But.of_below _ hb⟩
    · have := Bx.new (W.alloc (.cells #[.slice (some ⟨BL, 0, none⟩) n cl] 25)) 25 (.slice ax n cx) _ rfl
      rw [show (W.alloc (.cells #[.slice (some ⟨BL, 0, none⟩) n cl] 25)).heap.size = W.heap.size + 1 by simp] at this
      exact this.alloc _
    · exact ((Bx.new W 25 (.slice (some ⟨BL, 0, none⟩) n cl) _ rfl).alloc _).alloc _
    · have := Bx.new ((W.alloc (.cells #[.slice (some ⟨BL, 0, none⟩) n cl] 25)).alloc (.cells #[.slice ax n cx] 25)) 25 (.slice aw n cw) _ rfl
      rw [show ((W.alloc (.cells #[.slice (some ⟨BL, 0, none⟩) n cl] 25)).alloc (.cells #[.slice ax n cx] 25)).heap.size = W.heap.size + 1 + 1 by simp] at this
      exact this
  have W3h := Lib.hid W3
  have R := Lib.hid (fun w h' => pass_run (W.heap.size + 1) W.heap.size (W.heap.size + 1 + 1) BL s h n ax aw cx cw cl xs ws zs w hn hs hh hsm h')
  clear hx hw hr hz nx nw W3 hn
  go_enter Try.func79, Try.ntmps79
  go_wp2_with fail
  obtain ⟨W4, hW4⟩ : ∃ W4, W4 = ((W.alloc (.cells #[.slice (some ⟨BL, 0, none⟩) n cl] 25)).alloc (.cells #[.slice ax n cx] 25)).alloc (.cells #[.slice aw n cw] 25) := ⟨_, rfl⟩
  obtain ⟨s4, b4⟩ := W3h.out _ hW4
  have B4 := Lib.hid b4
  rw [← hW4]
  clear hW4 W3h b4
  refine (R.out _ s4).mono ?_
  rintro e w1 ⟨rfl, s1, b1⟩
  have E1 := Lib.hid s1.rl
  have E2 := Lib.hid (B4.out.trans b1)
  clear s1 b1 s4 R
  go_wp2_with fail
  go_end0
  exact ⟨rfl, E1.out, E2.out⟩
theorem row_away {W : World} {ax : Option Addr} {n : Nat} {xs : List Int} (h : Row W ax n xs) (hn : 0 < n) {B : Nat} (hB : W.heap.size ≤ B) : ∀ x, ax = some x → x.block ≠ B := by
  obtain ⟨b, o, rfl, hb, _⟩ := h.cell hn
  intro x hx
  cases hx
  show b ≠ B
  omega
def c11 (n s m : Int) : Int := if hasp n = false then 4 else if s < 1 ∨ n / 2 < s ∨ pwb s = false then 2 else if m = n then 0 else 5
theorem keep1 {w0 w w' : World} {B : Nat} {p : Addr} {u : Value} (hp : p.block < B) (hS : w.cell? p = some u ∧ Below B w0 w) (hb : Below B w w') : w'.cell? p = some u ∧ Below B w0 w' := ⟨(hb.cell hp).trans hS.1, hS.2.trans hb⟩
end Go.Proofs.Ytcfmiflhhjoofaa
