/- Package small: a pair, in place. -/
import Derived.Test.YtjiedfncamdojaaSmall
import Derived.Test.YtjiedfncamdojaaJumps
import Derived.Test.YtjiedfncamdojaaGate
import Derived.Outline
namespace Go.Proofs.Ytjiedfncamdojaa
open Go.ChangeShapes Go.WideShapes Go.ChangeAt Go.RowKit
set_option linter.unusedVariables false
structure InRow (W w : World) (B : Nat) (zs : List Int) : Prop where
  r : RowAt w B 24 zs
  b : But W w B
theorem InRow.set {W w : World} {B : Nat} {zs : List Int} (h : InRow W w B zs) (k : Nat) (y : Int) : InRow W (w.setCell ⟨B, k, none⟩ (.int .u64 y)) B (zs.set k y) := ⟨h.r.set k y, h.b.trans (But.set _ _ _ _)⟩
theorem InRow.below {W w w' : World} {B : Nat} {zs : List Int} (h : InRow W w B zs) (hb : Below w.heap.size w w') : InRow W w' B zs := ⟨h.r.below hb, h.b.trans (But.of_below _ hb)⟩
theorem InRow.drew {W w : World} {B : Nat} {zs : List Int} (h : InRow W w B zs) : InRow W w.drew B zs := ⟨h.r, h.b.trans (But.drew _ _)⟩
set_option maxRecDepth 100000 in
theorem small_two (B o c : Nat) (dir : Int) (zs : List Int) (x y : Int) (W : World) (hr : RowAt W B 24 zs) (ho : o + 2 ≤ zs.length) (hx : zs.getD o 0 = x) (hy : zs.getD (o + 1) 0 = y) (x0 : 0 ≤ x) (x1 : x ≤ 18446744073709551615) (y0 : 0 ≤ y) (y1 : y ≤ 18446744073709551615) (hd : dir = 0 ∨ dir = 1) :
    Calls Try.prog 70 #[.slice (some ⟨B, o, none⟩) 2 c, .int .i64 dir] W fun e w' => e = .returned (.tuple #[]) ∧ InRow W w' B ((zs.set o (fm (x + y))).set (o + 1) (fm (x - y))) := by
  have R := Lib.hid (show ∀ w, Calls Try.prog 83 #[.int .i64 2, .int .i64 dir] w fun e w' => e = .returned (.int .u64 (rdir (2 : Nat) dir)) ∧ Below w.heap.size w w' from fun w => small_base 2 dir w (by omega) (by omega) hd)
  have C0 := Lib.hid (fun w (h : InRow W w B zs) => show w.cell? ⟨B, o, none⟩ = some (.int .u64 x) by rw [h.r.cell (by omega), hx])
  have C1 := Lib.hid (fun w (h : InRow W w B zs) => show w.cell? ⟨B, o + 1, none⟩ = some (.int .u64 y) by rw [h.r.cell (by omega), hy])
  have F := Lib.hid (fun (w : World) (zs' : List Int) (h : InRow W w B zs') k => show w.frozen? ⟨B, k, none⟩ = false from h.r.free k)
  have I0 := Lib.hid (show InRow W W B zs from ⟨hr, But.refl _ _⟩)
  generalize rdir (2 : Nat) dir = r at *
  clear hd hr
  go_enter Try.func70, Try.ntmps70
  refine scope_two rfl rfl ?_
  go_wp2_with fail
  refine (R.out _).mono ?_
  rintro e w1 ⟨rfl, b1⟩
  have I1 := Lib.hid (I0.out.below b1)
  clear I0 b1
  go_wp2_with fail
  apply wp_goto
  go_wp2_with fail
  refine jumps_one ?_
  go_wp2_with fail
  refine region_gate (fun w' => InRow W w' B zs) 17 (by kernel_rfl) I1.out.drew (fun hHeld => ?_)
  refine gate_takeF (i := 0) (v := ?v1) rfl (by kernel_rfl) (by kernel_rfl) (by kernel_rfl) (by kernel_rfl) (fun _ _ _ h => h) (Or.inl ⟨by rfl, ?hy1⟩) (by assumption) ?rest1
  case hy1 => intro w hSw; clear hSw; go_simp; with_reducible rfl
  simp only [Act.put, List.setIfInBounds_toArray]
  refine gate_takeF (i := 1) (v := ?v2) rfl (by kernel_rfl) (by kernel_rfl) (by kernel_rfl) (by kernel_rfl) (fun _ _ _ h => h) (Or.inl ⟨by rfl, ?hy2⟩) (by assumption) ?rest2
  case hy2 => intro w hSw; clear hSw; go_simp; with_reducible rfl
  simp only [Act.put]
  refine gate_takeF (i := 2) (v := ?v3) rfl (by kernel_rfl) (by kernel_rfl) (by kernel_rfl) (by kernel_rfl) (fun _ _ _ h => h) (Or.inl ⟨by rfl, ?hy3⟩) (by assumption) ?rest3
  case hy3 => intro w hSw; clear hSw; go_simp; with_reducible rfl
  simp only [Act.put]
  refine gate_takeF (i := 3) (v := ?v4) rfl (by kernel_rfl) (by kernel_rfl) (by kernel_rfl) (by kernel_rfl) (fun _ _ _ h => h) (Or.inl ⟨by rfl, ?hy4⟩) (by assumption) ?rest4
  case hy4 => intro w hSw; clear hSw; go_simp; with_reducible rfl
  simp only [Act.put]
  refine gate_take (i := 4) (v := ?v5) rfl (by kernel_rfl) (by kernel_rfl) (by kernel_rfl) (by kernel_rfl) (by kernel_rfl) (fun _ _ _ h => h) (Or.inl ⟨by rfl, ?hy5⟩) (by assumption) ?rest5
  case hy5 => intro w hSw; have hcl := C0.out w hSw; go_simp; with_reducible rfl
  simp only [Act.put]
  refine gate_takeF (i := 5) (v := ?v6) rfl (by kernel_rfl) (by kernel_rfl) (by kernel_rfl) (by kernel_rfl) (fun _ _ _ h => h) (Or.inl ⟨by rfl, ?hy6⟩) (by assumption) ?rest6
  case hy6 => intro w hSw; clear hSw; go_simp; with_reducible rfl
  simp only [Act.put]
  refine gate_takeF (i := 6) (v := ?v7) rfl (by kernel_rfl) (by kernel_rfl) (by kernel_rfl) (by kernel_rfl) (fun _ _ _ h => h) (Or.inl ⟨by rfl, ?hy7⟩) (by assumption) ?rest7
  case hy7 => intro w hSw; clear hSw; go_simp; with_reducible rfl
  simp only [Act.put]
  refine gate_take (i := 7) (v := ?v8) rfl (by kernel_rfl) (by kernel_rfl) (by kernel_rfl) (by kernel_rfl) (by kernel_rfl) (fun _ _ _ h => h) (Or.inl ⟨by rfl, ?hy8⟩) (by assumption) ?rest8
  case hy8 => intro w hSw; have hcl := C1.out w hSw; go_simp; with_reducible rfl
  simp only [Act.put]
  refine gate_takeF (i := 9) (v := ?v9) rfl (by kernel_rfl) (by kernel_rfl) (by kernel_rfl) (by kernel_rfl) (fun _ _ _ h => h) (Or.inl ⟨by rfl, ?hy9⟩) (by assumption) ?rest9
  case hy9 => intro w hSw; clear hSw; go_simp; with_reducible rfl
  simp only [Act.put]
  refine gate_takeF (i := 10) (v := ?v10) rfl (by kernel_rfl) (by kernel_rfl) (by kernel_rfl) (by kernel_rfl) (fun _ _ _ h => h) (Or.inl ⟨by rfl, ?hy10⟩) (by assumption) ?rest10
  case hy10 => intro w hSw; clear hSw; go_simp; with_reducible rfl
  simp only [Act.put]
  refine gate_take (i := 11) (v := ?v11) rfl (by kernel_rfl) (by kernel_rfl) (by kernel_rfl) (by kernel_rfl) (by kernel_rfl) (fun _ _ _ h => h) (Or.inl ⟨by rfl, ?hy11⟩) (by assumption) ?rest11
  case hy11 => intro w hSw; have hcl := C0.out w hSw; go_simp; with_reducible rfl
  simp only [Act.put]
  refine gate_takeF (i := 12) (v := ?v12) rfl (by kernel_rfl) (by kernel_rfl) (by kernel_rfl) (by kernel_rfl) (fun _ _ _ h => h) (Or.inl ⟨by rfl, ?hy12⟩) (by assumption) ?rest12
  case hy12 => intro w hSw; clear hSw; go_simp; with_reducible rfl
  simp only [Act.put]
  refine gate_takeF (i := 13) (v := ?v13) rfl (by kernel_rfl) (by kernel_rfl) (by kernel_rfl) (by kernel_rfl) (fun _ _ _ h => h) (Or.inl ⟨by rfl, ?hy13⟩) (by assumption) ?rest13
  case hy13 => intro w hSw; clear hSw; go_simp; with_reducible rfl
  simp only [Act.put]
  refine gate_take (i := 14) (v := ?v14) rfl (by kernel_rfl) (by kernel_rfl) (by kernel_rfl) (by kernel_rfl) (by kernel_rfl) (fun _ _ _ h => h) (Or.inl ⟨by rfl, ?hy14⟩) (by assumption) ?rest14
  case hy14 => intro w hSw; have hcl := C1.out w hSw; go_simp; with_reducible rfl
  simp only [Act.put]
  refine gate_one (i := 8) rfl (by kernel_rfl) (fun K hK => ?_)
  go_simp
  refine (gold_add x y _ x0 x1 y0 y1).mono ?_
  rintro e w' ⟨rfl, rfl⟩
  go_wp2_with fail
  refine hK.out _ _ (by assumption) (fun hHeld2 => ?_)
  clear hK K
  try simp only [Act.put]
  refine gate_one (i := 15) rfl (by kernel_rfl) (fun K hK => ?_)
  go_simp
  refine (gold_sub x y _ x0 x1 y0 y1).mono ?_
  rintro e w' ⟨rfl, rfl⟩
  go_wp2_with fail
  refine hK.out _ _ (by assumption) (fun hHeld2 => ?_)
  clear hK K
  try simp only [Act.put]
  refine gate_takeF (i := 16) (v := ?v15) rfl (by kernel_rfl) (by kernel_rfl) (by kernel_rfl) (by kernel_rfl) (fun _ _ _ h => h) (Or.inl ⟨by rfl, ?hy15⟩) (by assumption) ?rest15
  case hy15 => intro w hSw; clear hSw; go_simp; with_reducible rfl
  simp only [Act.put]
  have f0 := F.out _ _ hHeld o
  have cc0 := C0.out _ hHeld
  have cc1 := C1.out _ hHeld
  have hlt := hHeld.r.lt
  refine gate_past (i := 17) rfl (by kernel_rfl) (by kernel_rfl) (fun K hK => ?_)
  go_simp
  refine hK.out _ _ ?_
  clear hK K
  try simp only [Act.put, List.setIfInBounds_toArray, List.set_cons_zero, List.set_cons_succ]
  have h1 : InRow W (w1.setCell ⟨B, o, none⟩ (.int .u64 (fm (x + y)))).drew B (zs.set o (fm (x + y))) := hHeld.set o (fm (x + y))
  have hlt1 := h1.r.lt
  have f1 := h1.r.free (o + 1)
  have cc2 : ((w1.setCell ⟨B, o, none⟩ (.int .u64 (fm (x + y)))).drew.cell? ⟨B, o + 1, none⟩) = some (.int .u64 ((zs.set o (fm (x + y))).getD (o + 1) 0)) := h1.r.cell (by rw [List.length_set]; omega)
  refine gate_past (i := 18) rfl (by kernel_rfl) (by kernel_rfl) (fun K hK => ?_)
  go_simp
  refine hK.out _ _ ?_
  clear hK K
  try simp only [Act.put, List.setIfInBounds_toArray, List.set_cons_zero, List.set_cons_succ]
  refine gate_past (i := 19) rfl (by kernel_rfl) (by kernel_rfl) (fun K hK => ?_)
  go_simp
  refine hK.out _ _ ?_
  clear hK K
  try simp only [Act.put, List.setIfInBounds_toArray, List.set_cons_zero, List.set_cons_succ]
  have E := Lib.hid (h1.set (o + 1) (fm (x - y)))
  clear h1 hHeld cc0 cc1 f0 hlt hlt1 f1 cc2
  refine gate_done (by kernel_rfl) ?_ _
  go_wp2_with fail
  apply wp_goto
  go_wp2_with fail
  refine jumps_zero2 ?_
  go_wp2_with fail
  refine jumps_normal ?_
  go_wp2_with fail
  go_end0
  exact ⟨rfl, E.out⟩
end Go.Proofs.Ytjiedfncamdojaa
